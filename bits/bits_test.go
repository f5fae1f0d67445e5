package bits_test

import (
	"errors"
	"maps"
	"math"
	"math/big"
	"slices"
	"testing"

	"concord/api"
	"concord/bits"
)

const runs = 3000 // of draws, where not all that may be can be looked at

// draws are numbers that look random, and are the same each time.
func draws(seed uint64) func() uint64 {
	return func() uint64 {
		seed = seed*6364136223846793005 + 1442695040888963407
		x := seed
		x ^= x >> 29
		x *= 0xBF58476D1CE4E5B9
		return x ^ x>>32
	}
}

// hashes are some that stand at edges, and some drawn.
func hashes() []uint32 {
	all := []uint32{0, 1, 2, 31, 32, 33, 1<<30 - 1, 1 << 30, 1 << 31, 3 << 30, 0x9E3779B9, 0x55555555, 0xAAAAAAAA, math.MaxUint32 - 1, math.MaxUint32}
	draw := draws(1)
	for range runs {
		all = append(all, uint32(draw()))
	}
	return all
}

// P3.1: written down by hand.
func TestHashOfSome(t *testing.T) {
	for x, want := range map[int]uint32{
		0:               0,
		1:               0x9E3779B9,
		2:               0x3C6EF372,
		3:               0xDAA66D2C, // the lower half counts too
		-1:              0x61C88646,
		math.MinInt:     0x80000000,
		1 << 32:         0x7F4A7C15,
		1 << 62:         0x40000000,
		math.MaxInt:     0xE1C88646,
		math.MinInt + 1: 0x1E3779B9,
	} {
		if h := bits.Hash(x); h != want {
			t.Errorf("Hash(%d) = %#x, want %#x", x, h, want)
		}
	}
}

// P3.1: as numbers without bound have it.
func TestHash(t *testing.T) {
	draw := draws(2)
	for i := range runs {
		for _, x := range []int{i, -i, int(draw()), int(draw() >> 32), -int(draw() >> 40)} {
			if h, want := bits.Hash(x), plainHash(x); h != want {
				t.Fatalf("Hash(%d) = %#x, want %#x", x, h, want)
			}
		}
	}
}

func plainHash(x int) uint32 {
	whole := new(big.Int).Lsh(big.NewInt(1), 64)
	y := big.NewInt(int64(x))
	if x < 0 {
		y.Add(y, whole)
	}
	y.Mul(y, new(big.Int).SetUint64(0x9E3779B97F4A7C15))
	y.Mod(y, whole)
	return uint32(y.Rsh(y, 32).Uint64())
}

// P3.2: the first level has the lowest five bits, the last one the two highest.
func TestSlotOfSome(t *testing.T) {
	const h = 0b10_00001_00010_00100_01000_10000_11111
	for level, want := range []int{31, 16, 8, 4, 2, 1, 2} {
		wantSlot(t, h, level, want)
	}
	for level := range 6 {
		wantSlot(t, math.MaxUint32, level, 31)
	}
	wantSlot(t, math.MaxUint32, 6, 3)
}

func wantSlot(t *testing.T, h uint32, level, want int) {
	t.Helper()
	if s := bits.Slot(h, level); s != want {
		t.Errorf("Slot(%#x, %d) = %d, want %d", h, level, s, want)
	}
}

// P3.2: levels that are not there are taken as the first and as the last one.
func TestSlotBeyondTheLevels(t *testing.T) {
	for _, h := range hashes()[:100] {
		for _, level := range []int{-1, -2, -6, -7, -32, -64, math.MinInt, math.MinInt + 1} {
			wantSlot(t, h, level, int(h%32))
		}
		for _, level := range []int{6, 7, 8, 12, 13, 32, 64, 1 << 32, math.MaxInt} {
			wantSlot(t, h, level, int(h/(1<<30)))
		}
	}
}

// P3.2, P3.9: the slots of a hash are its digits, and tell it.
func TestSlotsTellTheHash(t *testing.T) {
	for _, h := range hashes() {
		rest, back := h, uint32(0)
		for level := range 7 {
			wantSlot(t, h, level, int(rest%32))
			rest /= 32
			back += uint32(bits.Slot(h, level)) << (5 * level)
		}
		if back != h {
			t.Fatalf("the slots of %#x tell %#x", h, back)
		}
	}
}

// slotMaps are some at edges, and some drawn, thick and thin ones.
func slotMaps() []uint32 {
	all := []uint32{0, 1, 2, 1 << 31, 1<<31 | 1, 0x55555555, 0xAAAAAAAA, 1<<31 - 1, math.MaxUint32 - 1, math.MaxUint32}
	draw := draws(3)
	for range 100 {
		x := draw()
		all = append(all, uint32(x), uint32(x)&uint32(x>>32), uint32(x)|uint32(x>>32))
	}
	return all
}

// slotsOf is a map of slots, written down plainly.
func slotsOf(m uint32) map[int]bool {
	set := map[int]bool{}
	for slot := range 32 {
		if m%2 == 1 {
			set[slot] = true
		}
		m /= 2
	}
	return set
}

// aliases are numbers that are the same slot.
func aliases(slot int) []int {
	return []int{slot, slot + 32, slot - 32, slot + 64, slot - 64, slot + 320, slot - 320, slot + 1<<32, slot - 1<<32, math.MinInt + slot, math.MaxInt - 31 + slot}
}

// P3.3: Has tells just the slots that the map has, by each of their names.
func TestHas(t *testing.T) {
	for _, m := range slotMaps() {
		set := slotsOf(m)
		for slot := range 32 {
			for _, s := range aliases(slot) {
				if bits.Has(m, s) != set[slot] {
					t.Fatalf("Has(%#x, %d) = %v, want %v", m, s, !set[slot], set[slot])
				}
			}
		}
	}
}

// P3.3: With and Without change that slot, and no other one.
func TestWithAndWithout(t *testing.T) {
	for _, m := range slotMaps() {
		for slot := range 32 {
			with, without := slotsOf(m), slotsOf(m)
			with[slot] = true
			delete(without, slot)
			for _, s := range aliases(slot) {
				wantMap(t, "With", m, s, bits.With(m, s), with)
				wantMap(t, "Without", m, s, bits.Without(m, s), without)
			}
		}
		if t.Failed() {
			return
		}
	}
}

func wantMap(t *testing.T, what string, m uint32, slot int, got uint32, want map[int]bool) {
	t.Helper()
	if !maps.Equal(slotsOf(got), want) {
		t.Errorf("%s(%#x, %d) = %#x, want the slots %v", what, m, slot, got, slices.Sorted(maps.Keys(want)))
	}
}

// P3.3: Rank is how many slots below it there are, it aside.
func TestRank(t *testing.T) {
	for _, m := range slotMaps() {
		set, below := slotsOf(m), 0
		for slot := range 32 {
			for _, s := range aliases(slot) {
				if n := bits.Rank(m, s); n != below {
					t.Fatalf("Rank(%#x, %d) = %d, want %d", m, s, n, below)
				}
			}
			if set[slot] {
				below++
			}
		}
	}
}

// P3.8: the ranks of a map's slots are 0, 1, 2 ..
func TestRanksAreInOrder(t *testing.T) {
	for _, m := range slotMaps() {
		next := 0
		for slot := range 32 {
			if !bits.Has(m, slot) {
				continue
			}
			if n := bits.Rank(m, slot); n != next {
				t.Fatalf("Rank(%#x, %d) = %d, want %d", m, slot, n, next)
			}
			next++
		}
	}
}

// P3.4: written down by hand.
func TestTallOfSome(t *testing.T) {
	for _, x := range []struct {
		draw uint64
		most int
		want int
	}{
		{8, 9, 4},
		{8, 4, 4},
		{8, 3, 3},
		{8, 5, 4},
		{1, 9, 1},
		{2, 9, 2},
		{3, 9, 1},
		{0b10100, 9, 3},
		{0b10100, 2, 2},
		{math.MaxUint64, 9, 1},
		{math.MaxUint64 - 1, 9, 2},
		{1 << 32, 40, 33},
		{1 << 63, math.MaxInt, 64},
		{1 << 63, 63, 63},
		{0, math.MaxInt, 65},
		{0, 66, 65},
		{0, 65, 65},
		{0, 64, 64},
		{0, api.Tallest, api.Tallest},
		{0, 1, 1},
		{8, 1, 1},
		{8, 0, 1},
		{0, 0, 1},
		{1, 0, 1},
		{8, -1, 1},
		{0, -4, 1},
		{8, math.MinInt, 1},
		{0, math.MinInt, 1},
		{1, math.MinInt, 1},
	} {
		if n := bits.Tall(x.draw, x.most); n != x.want {
			t.Errorf("Tall(%#x, %d) = %d, want %d", x.draw, x.most, n, x.want)
		}
	}
}

// P3.4: as it is counted bit by bit.
func TestTall(t *testing.T) {
	draw := draws(4)
	for range runs {
		x := draw() << (draw() % 64)
		for _, most := range []int{-1, 0, 1, 2, 5, 30, 63, 64, 65, 66, 1000} {
			if n, want := bits.Tall(x, most), plainTall(x, most); n != want {
				t.Fatalf("Tall(%#x, %d) = %d, want %d", x, most, n, want)
			}
		}
	}
}

func plainTall(draw uint64, most int) int {
	n := 1
	for i := 0; i < 64 && draw%2 == 0; i++ {
		n++
		draw /= 2
	}
	if most < 1 {
		most = 1
	}
	if n > most {
		return most
	}
	return n
}

// metas are all Metas of some versions and owners.
func metas() []api.Meta {
	draw := draws(5)
	versions := []int{0, 1, 2, 255, 256, 1 << 16, 1 << 31, 1 << 32, 1<<47 - 1, 1 << 47, api.MaxVersion - 1, api.MaxVersion}
	owners := []int{0, 1, 2, 3, 127, 128, api.MaxOwner - 1, api.MaxOwner}
	for range 30 {
		versions = append(versions, int(draw()%(api.MaxVersion+1)))
		owners = append(owners, int(draw()%(api.MaxOwner+1)))
	}
	var all []api.Meta
	for _, v := range versions {
		for _, o := range owners {
			for _, changing := range []bool{false, true} {
				for _, waiting := range []bool{false, true} {
					all = append(all, api.Meta{Version: v, Owner: o, Changing: changing, Waiting: waiting})
				}
			}
		}
	}
	return all
}

func pack(t *testing.T, m api.Meta) uint64 {
	t.Helper()
	w, err := bits.Pack(m)
	if err != nil {
		t.Fatalf("Pack(%+v): %v", m, err)
	}
	return w
}

// P3.5: written down by hand.
func TestPackOfSome(t *testing.T) {
	for _, x := range []struct {
		meta api.Meta
		want uint64
	}{
		{api.Meta{}, 0},
		{api.Meta{Changing: true}, 1},
		{api.Meta{Waiting: true}, 2},
		{api.Meta{Changing: true, Waiting: true}, 3},
		{api.Meta{Owner: 1}, 0x100},
		{api.Meta{Owner: 255}, 0xFF00},
		{api.Meta{Version: 1}, 0x10000},
		{api.Meta{Version: api.MaxVersion}, 0xFFFFFFFFFFFF0000},
		{api.Meta{Version: api.MaxVersion, Owner: api.MaxOwner, Changing: true, Waiting: true}, 0xFFFFFFFFFFFFFF03},
		{api.Meta{Version: 0x123456789ABC, Owner: 0xDE, Waiting: true}, 0x123456789ABCDE02},
	} {
		if w := pack(t, x.meta); w != x.want {
			t.Errorf("Pack(%+v) = %#x, want %#x", x.meta, w, x.want)
		}
		if m := bits.Unpack(x.want); m != x.meta {
			t.Errorf("Unpack(%#x) = %+v, want %+v", x.want, m, x.meta)
		}
	}
}

// P3.5, P3.6: a word is the sum of its parts, and tells what was packed.
func TestPackAndBack(t *testing.T) {
	for _, m := range metas() {
		want := uint64(m.Version)*65536 + uint64(m.Owner)*256
		if m.Waiting {
			want += 2
		}
		if m.Changing {
			want++
		}
		w := pack(t, m)
		if w != want {
			t.Fatalf("Pack(%+v) = %#x, want %#x", m, w, want)
		}
		if back := bits.Unpack(w); back != m {
			t.Fatalf("Unpack of Pack(%+v) is %+v", m, back)
		}
	}
}

// P3.5, P3.6: each word tells something that may be packed; its bits 2 to 7 tell nothing.
func TestUnpackAndBack(t *testing.T) {
	all := []uint64{0, 1, 2, 3, 4, 0x80, 0xFC, 0xFF, 0x100, 0xFFFF, 0x10000, 1 << 63, math.MaxUint64 - 3, math.MaxUint64}
	draw := draws(6)
	for range runs {
		all = append(all, draw())
	}
	for _, w := range all {
		want := w - w%256 + w%4
		if back := pack(t, bits.Unpack(w)); back != want {
			t.Fatalf("Pack of Unpack(%#x) is %#x, want %#x", w, back, want)
		}
		for i := 2; i < 8; i++ {
			if other := w ^ 1<<i; bits.Unpack(other) != bits.Unpack(w) {
				t.Fatalf("Unpack(%#x) = %+v, Unpack(%#x) = %+v", w, bits.Unpack(w), other, bits.Unpack(other))
			}
		}
	}
}

// wantRefused looks that a Meta is not packed: an error that wraps its number, names no place, and is no other one.
func wantRefused(t *testing.T, m api.Meta) {
	t.Helper()
	w, err := bits.Pack(m)
	if err == nil || w != 0 {
		t.Errorf("Pack(%+v) = %#x, %v, want ErrArg", m, w, err)
		return
	}
	for e := api.ErrNil; e <= api.ErrKind; e++ {
		if errors.Is(err, e) != (e == api.ErrArg) {
			t.Errorf("Pack(%+v): %v, want ErrArg", m, err)
		}
	}
	if errors.Unwrap(err) != api.ErrArg || api.Place(err) != 0 || err.Error() == "" {
		t.Errorf("Pack(%+v): %v wraps %v and names the place %d", m, err, errors.Unwrap(err), api.Place(err))
	}
}

// P3.5: what is beyond a bound, on either side, whatever the rest is.
func TestPackRefuses(t *testing.T) {
	versions := []int{-1, -2, -65536, math.MinInt, api.MaxVersion + 1, api.MaxVersion + 2, 1 << 49, 1 << 62, math.MaxInt}
	owners := []int{-1, -2, -256, math.MinInt, api.MaxOwner + 1, api.MaxOwner + 2, 512, 1 << 32, math.MaxInt}
	for _, v := range versions {
		wantRefused(t, api.Meta{Version: v})
		wantRefused(t, api.Meta{Version: v, Owner: api.MaxOwner, Changing: true, Waiting: true})
		for _, o := range owners {
			wantRefused(t, api.Meta{Version: v, Owner: o})
		}
	}
	for _, o := range owners {
		wantRefused(t, api.Meta{Owner: o})
		wantRefused(t, api.Meta{Version: api.MaxVersion, Owner: o, Changing: true, Waiting: true})
	}
}

// P3.7: of two words the one with the greater version is greater, whatever the rest is.
func TestWordsAreInOrder(t *testing.T) {
	all := metas()
	draw := draws(7)
	for range runs {
		less, more := all[draw()%uint64(len(all))], all[draw()%uint64(len(all))]
		if less.Version > more.Version {
			less, more = more, less
		}
		if less.Version < more.Version {
			wantBelow(t, less, more)
		}
	}
	for _, m := range all {
		if m.Version < api.MaxVersion {
			full := api.Meta{Version: m.Version, Owner: api.MaxOwner, Changing: true, Waiting: true}
			wantBelow(t, full, api.Meta{Version: m.Version + 1})
		}
	}
}

func wantBelow(t *testing.T, less, more api.Meta) {
	t.Helper()
	if a, b := pack(t, less), pack(t, more); a >= b {
		t.Errorf("the word %#x of %+v is not below %#x of %+v", a, less, b, more)
	}
}

// The chapter's example.
func TestExample(t *testing.T) {
	if h := bits.Hash(1); h != 0x9E3779B9 || bits.Slot(h, 0) != 25 {
		t.Errorf("Hash(1) = %#x, Slot of it = %d", h, bits.Slot(h, 0))
	}
	if n := bits.Tall(8, 9); n != 4 {
		t.Errorf("Tall(8, 9) = %d", n)
	}
}
