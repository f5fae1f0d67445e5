package blocks_test

import (
	"errors"
	"math"
	"slices"
	"testing"

	"concord/api"
	"concord/blocks"
	"concord/words"
)

const generation = 1 << 32 // of a ref and of a head

// wantErr looks that an error is that one, and names that place (0: none).
func wantErr(t *testing.T, what string, got error, want api.Errno, at int) {
	t.Helper()
	for e := api.ErrNil; e <= api.ErrKind; e++ {
		if errors.Is(got, e) != (e == want) {
			t.Errorf("%s: %v, want %v", what, got, want)
			return
		}
	}
	if api.Place(got) != at {
		t.Errorf("%s: %v names the place %d, want %d", what, got, api.Place(got), at)
	}
}

// wantFault looks that an error is that one, at that place, which may be 0.
func wantFault(t *testing.T, what string, got error, want api.Errno, at int) {
	t.Helper()
	wantErr(t, what, got, want, at)
	var f *api.Fault
	if !errors.As(got, &f) {
		t.Errorf("%s: %v is no Fault", what, got)
	}
}

// used is an arena whose words are not 0 any more.
func used(t *testing.T, n int) *words.Arena {
	t.Helper()
	a, err := words.New(n)
	if err != nil {
		t.Fatal(err)
	}
	for i := range n {
		if err := a.Store(i, junk(i)); err != nil {
			t.Fatal(err)
		}
	}
	return a
}

func junk(i int) uint64 { return math.MaxUint64 - uint64(i) }

func open(t *testing.T, a *words.Arena, from int) *blocks.Blocks {
	t.Helper()
	b, err := blocks.New(a, from)
	if err != nil || b == nil {
		t.Fatalf("New(.., %d) = %v, %v", from, b, err)
	}
	return b
}

func both(t *testing.T, n, from int) (*words.Arena, *blocks.Blocks) {
	t.Helper()
	a := used(t, n)
	return a, open(t, a, from)
}

func wantAlloc(t *testing.T, b *blocks.Blocks, n int, want uint64) {
	t.Helper()
	if ref, err := b.Alloc(n); ref != want || err != nil {
		t.Fatalf("Alloc(%d) = %#x, %v, want %#x", n, ref, err, want)
	}
}

func free(t *testing.T, b *blocks.Blocks, ref uint64) {
	t.Helper()
	if err := b.Free(ref); err != nil {
		t.Fatalf("Free(%#x): %v", ref, err)
	}
}

func store(t *testing.T, b *blocks.Blocks, ref uint64, i int, x uint64) {
	t.Helper()
	if err := b.Store(ref, i, x); err != nil {
		t.Fatalf("Store(%#x, %d, %d): %v", ref, i, x, err)
	}
}

func wantLoad(t *testing.T, b *blocks.Blocks, ref uint64, i int, want uint64) {
	t.Helper()
	if x, err := b.Load(ref, i); x != want || err != nil {
		t.Errorf("Load(%#x, %d) = %#x, %v, want %#x", ref, i, x, err, want)
	}
}

func wantCAS(t *testing.T, b *blocks.Blocks, ref uint64, i int, old, next uint64, want bool) {
	t.Helper()
	if done, err := b.CAS(ref, i, old, next); done != want || err != nil {
		t.Errorf("CAS(%#x, %d, %d, %d) = %v, %v, want %v", ref, i, old, next, done, err, want)
	}
}

func wantWord(t *testing.T, b *blocks.Blocks, ref uint64, i, want int) {
	t.Helper()
	if w, err := b.Word(ref, i); w != want || err != nil {
		t.Errorf("Word(%#x, %d) = %d, %v, want %d", ref, i, w, err, want)
	}
}

func wantSize(t *testing.T, b *blocks.Blocks, ref uint64, want int) {
	t.Helper()
	if n, err := b.Size(ref); n != want || err != nil {
		t.Errorf("Size(%#x) = %d, %v, want %d", ref, n, err, want)
	}
}

func wantLooks(t *testing.T, b *blocks.Blocks, top, used int, live ...uint64) {
	t.Helper()
	if b.Top() != top || b.Used() != used || !slices.Equal(b.Live(), live) {
		t.Errorf("Top, Used, Live = %d, %d, %#x, want %d, %d, %#x", b.Top(), b.Used(), b.Live(), top, used, live)
	}
}

// wantAt looks that the words of an arena from one on are these.
func wantAt(t *testing.T, a *words.Arena, from int, want ...uint64) {
	t.Helper()
	if got := a.Words()[from : from+len(want)]; !slices.Equal(got, want) {
		t.Errorf("the words from %d on are %#x, want %#x", from, got, want)
	}
}

// wantUntouched looks that something does no access, and changes no word and nothing that looks tell.
func wantUntouched(t *testing.T, a *words.Arena, b *blocks.Blocks, do func()) {
	t.Helper()
	count, all, live, used, top := a.Count(), a.Words(), b.Live(), b.Used(), b.Top()
	do()
	if a.Count() != count || !slices.Equal(a.Words(), all) {
		t.Errorf("there were %d accesses", a.Count()-count)
	}
	wantLooks(t, b, top, used, live...)
}

// wantAtMost looks that something does so many accesses at the most.
func wantAtMost(t *testing.T, a *words.Arena, most int, do func()) {
	t.Helper()
	count := a.Count()
	do()
	if n := a.Count() - count; n > most {
		t.Errorf("there were %d accesses, want at most %d", n, most)
	}
}

// wantStale looks that no call takes a ref as good.
func wantStale(t *testing.T, a *words.Arena, b *blocks.Blocks, ref uint64) {
	t.Helper()
	place := int(ref % generation)
	wantUntouched(t, a, b, func() {
		t.Helper()
		wantErr(t, "Free of a stale one", b.Free(ref), api.ErrStale, 0)
		for _, i := range []int{0, 1, -1, math.MaxInt} {
			wantRefused(t, b, ref, i, api.ErrStale, place)
		}
		n, err := b.Size(ref)
		wantFault(t, "Size of a stale one", err, api.ErrStale, place)
		if n != 0 {
			t.Errorf("Size = %d with an error", n)
		}
	})
}

// wantRefused looks that no call takes a word of a block.
func wantRefused(t *testing.T, b *blocks.Blocks, ref uint64, i int, want api.Errno, at int) {
	t.Helper()
	w, err := b.Word(ref, i)
	wantFault(t, "Word", err, want, at)
	x, err := b.Load(ref, i)
	wantFault(t, "Load", err, want, at)
	wantFault(t, "Store", b.Store(ref, i, 9), want, at)
	done, err := b.CAS(ref, i, 0, 9)
	wantFault(t, "CAS", err, want, at)
	if w != 0 || x != 0 || done {
		t.Errorf("with an error: Word = %d, Load = %d, CAS: %v", w, x, done)
	}
}

// P2.1, rule 1: an arena that is none, and that ahead of a place that may not be.
func TestNewOfNoArena(t *testing.T) {
	for _, a := range []*words.Arena{nil, {}} {
		for _, from := range []int{0, 1, -1, math.MaxInt} {
			b, err := blocks.New(a, from)
			wantErr(t, "New", err, api.ErrNil, 0)
			if b != nil {
				t.Errorf("New of no arena is %v", b)
			}
		}
	}
}

// P2.1: a place that may not be.
func TestNewRefuses(t *testing.T) {
	a := used(t, 8)
	for _, from := range []int{-1, -8, 9, 100, math.MinInt, math.MaxInt} {
		b, err := blocks.New(a, from)
		wantErr(t, "New", err, api.ErrArg, 0)
		if b != nil {
			t.Errorf("New(.., %d) is %v", from, b)
		}
	}
	if a.Count() != 8 {
		t.Errorf("New did %d accesses", a.Count()-8)
	}
}

// P2.1: no blocks, Top from, and no access.
func TestNewMakes(t *testing.T) {
	for _, from := range []int{0, 1, 7, 8} {
		a, b := both(t, 8, from)
		wantLooks(t, b, from, 0)
		for i := range 8 {
			wantAt(t, a, i, junk(i))
		}
		if a.Count() != 8 {
			t.Errorf("New did %d accesses", a.Count()-8)
		}
	}
}

// The chapter's example.
func TestExample(t *testing.T) {
	a, b := both(t, 8, 2)
	wantAlloc(t, b, 2, 2)
	free(t, b, 2)
	wantAlloc(t, b, 2, generation+2)
	wantStale(t, a, b, 2)
}

// P2.2: a number of words that may not be, ahead of room that is not there.
func TestAllocRefuses(t *testing.T) {
	for _, words := range []int{200, 1} {
		a, b := both(t, words, 1)
		for _, n := range []int{0, -1, -64, api.MaxBlock + 1, math.MinInt, math.MaxInt} {
			wantUntouched(t, a, b, func() { wantAllocRefused(t, b, n, api.ErrArg) })
		}
	}
}

func wantAllocRefused(t *testing.T, b *blocks.Blocks, n int, want api.Errno) {
	t.Helper()
	ref, err := b.Alloc(n)
	wantErr(t, "Alloc", err, want, 0)
	if ref != 0 {
		t.Errorf("Alloc(%d) = %#x with an error", n, ref)
	}
}

// P2.2, and what a block, its place and its head are: new ones stand side by side from Top on, with words that are 0.
func TestAllocNew(t *testing.T) {
	a, b := both(t, 100, 3)
	wantAtMost(t, a, 3, func() { wantAlloc(t, b, 2, 3) })
	wantAt(t, a, 2, junk(2), 5, 0, 0, junk(6))
	wantLooks(t, b, 6, 3, 3)
	wantAtMost(t, a, 2, func() { wantAlloc(t, b, 1, 6) })
	wantAt(t, a, 5, 0, 3, 0, junk(8))
	wantLooks(t, b, 8, 5, 3, 6)
	wantAtMost(t, a, api.MaxBlock+1, func() { wantAlloc(t, b, api.MaxBlock, 8) })
	wantAt(t, a, 8, 2*api.MaxBlock+1)
	wantAt(t, a, 9, make([]uint64, api.MaxBlock)...)
	wantAt(t, a, 73, junk(73))
	wantLooks(t, b, 73, 70, 3, 6, 8)
	for ref, n := range map[uint64]int{3: 2, 6: 1, 8: api.MaxBlock} {
		wantSize(t, b, ref, n)
	}
}

// A place of 0 is one too.
func TestBlockAtZero(t *testing.T) {
	a, b := both(t, 4, 0)
	wantAlloc(t, b, 3, 0)
	wantLooks(t, b, 4, 4, 0)
	store(t, b, 0, 2, 7)
	wantAt(t, a, 0, 7, 0, 0, 7)
	free(t, b, 0)
	wantStale(t, a, b, 0)
	wantAlloc(t, b, 3, generation)
}

// P2.2: room up to the last word, and none beyond.
func TestAllocFull(t *testing.T) {
	a, b := both(t, 8, 2)
	wantUntouched(t, a, b, func() {
		wantAllocRefused(t, b, 6, api.ErrFull)
		wantAllocRefused(t, b, api.MaxBlock, api.ErrFull)
	})
	wantAlloc(t, b, 5, 2)
	wantAt(t, a, 2, 11, 0, 0, 0, 0, 0)
	wantLooks(t, b, 8, 6, 2)
	wantUntouched(t, a, b, func() { wantAllocRefused(t, b, 1, api.ErrFull) })
	free(t, b, 2)
	wantUntouched(t, a, b, func() { wantAllocRefused(t, b, 4, api.ErrFull) }) // a block is given out whole, for its own size alone
	wantAlloc(t, b, 5, generation+2)

	a, b = both(t, 8, 2)
	wantAlloc(t, b, 3, 2)
	wantUntouched(t, a, b, func() { wantAllocRefused(t, b, 2, api.ErrFull) })
	wantAlloc(t, b, 1, 6)
	wantLooks(t, b, 8, 6, 2, 6)

	for _, from := range []int{7, 8} {
		a, b = both(t, 8, from)
		wantUntouched(t, a, b, func() { wantAllocRefused(t, b, 1, api.ErrFull) })
	}
}

// P2.2: what is freed has the next generation, and its words as they were.
func TestFree(t *testing.T) {
	a, b := both(t, 20, 1)
	wantAlloc(t, b, 2, 1)
	wantAlloc(t, b, 1, 4)
	store(t, b, 1, 0, 7)
	store(t, b, 1, 1, 8)
	wantAtMost(t, a, 1, func() { free(t, b, 1) })
	wantAt(t, a, 0, junk(0), generation+4, 7, 8, 3, 0, junk(6))
	wantLooks(t, b, 6, 2, 4)
	wantStale(t, a, b, 1)
	wantStale(t, a, b, generation+1) // the next generation is not live yet
	wantAtMost(t, a, 3, func() { wantAlloc(t, b, 2, generation+1) })
	wantAt(t, a, 0, junk(0), generation+5, 0, 0, 3, 0, junk(6))
	wantLooks(t, b, 6, 5, generation+1, 4)
	wantStale(t, a, b, 1)
	free(t, b, generation+1)
	wantAt(t, a, 1, 2*generation+4, 0, 0)
	free(t, b, 4)
	wantAt(t, a, 4, generation+2, 0)
	wantLooks(t, b, 6, 0)
}

// P2.2: of blocks of one size the one that was freed last comes first; then a new one.
func TestFreedLastComesFirst(t *testing.T) {
	a, b := both(t, 30, 1)
	for i := range uint64(3) {
		wantAlloc(t, b, 2, 1+3*i)
	}
	wantAlloc(t, b, 1, 10)
	for _, ref := range []uint64{4, 10, 1, 7} {
		free(t, b, ref)
	}
	wantAlloc(t, b, 2, generation+7)
	wantAlloc(t, b, 2, generation+1)
	free(t, b, generation+7)
	wantAlloc(t, b, 2, 2*generation+7)
	wantAlloc(t, b, 2, generation+4)
	wantAlloc(t, b, 2, 12)
	wantAlloc(t, b, 3, 15)
	wantAlloc(t, b, 1, generation+10)
	wantAlloc(t, b, 1, 19)
	wantLooks(t, b, 21, 20, generation+1, generation+4, 2*generation+7, generation+10, 12, 15, 19)
	wantAt(t, a, 21, junk(21))
}

// P2.2, P2.3, and what a good ref is: no other one is taken.
func TestStale(t *testing.T) {
	a, b := both(t, 20, 1)
	for _, ref := range []uint64{0, 1, 2, 20, math.MaxUint32, math.MaxUint64, generation, generation + 1} {
		wantStale(t, a, b, ref)
	}
	wantAlloc(t, b, 2, 1)
	wantAlloc(t, b, 2, 4)
	free(t, b, 4)
	for _, ref := range []uint64{0, 2, 3, 4, 5, 7, generation + 1, generation + 4, 1<<63 + 1, math.MaxUint64} {
		wantStale(t, a, b, ref)
	}
	wantSize(t, b, 1, 2)
	free(t, b, 1)
	wantStale(t, a, b, 1)
}

// P2.3: words that a block has not, with refs that are good.
func TestRange(t *testing.T) {
	a, b := both(t, 100, 1)
	wantAlloc(t, b, 2, 1)
	wantAlloc(t, b, api.MaxBlock, 4)
	wantUntouched(t, a, b, func() {
		for _, i := range []int{-1, 2, 3, math.MinInt, math.MaxInt, generation} {
			wantRefused(t, b, 1, i, api.ErrRange, i)
		}
		wantRefused(t, b, 4, api.MaxBlock, api.ErrRange, api.MaxBlock)
		wantRefused(t, b, 4, -1, api.ErrRange, -1)
	})
	wantWord(t, b, 1, 1, 3)
	wantWord(t, b, 4, api.MaxBlock-1, 68)
}

// P2.3: Load, Store and CAS are one access each of the word that Word tells; Word and Size are none.
func TestAccesses(t *testing.T) {
	a, b := both(t, 20, 4)
	wantAlloc(t, b, 1, 4)
	wantAlloc(t, b, 3, 6)
	wantUntouched(t, a, b, func() {
		wantWord(t, b, 4, 0, 5)
		for i := range 3 {
			wantWord(t, b, 6, i, 7+i)
		}
		wantSize(t, b, 4, 1)
		wantSize(t, b, 6, 3)
	})
	steps := []struct {
		do   func()
		want api.Access
	}{
		{func() { wantLoad(t, b, 6, 2, 0) }, api.Access{Kind: api.AccessLoad, At: 9, Done: true}},
		{func() { store(t, b, 6, 2, 7) }, api.Access{Kind: api.AccessStore, At: 9, New: 7, Done: true}},
		{func() { wantLoad(t, b, 6, 2, 7) }, api.Access{Kind: api.AccessLoad, At: 9, Old: 7, New: 7, Done: true}},
		{func() { wantCAS(t, b, 6, 2, 6, 8, false) }, api.Access{Kind: api.AccessCAS, At: 9, Old: 7, New: 7}},
		{func() { wantCAS(t, b, 6, 2, 7, 8, true) }, api.Access{Kind: api.AccessCAS, At: 9, Old: 7, New: 8, Done: true}},
		{func() { wantCAS(t, b, 4, 0, 0, math.MaxUint64, true) }, api.Access{Kind: api.AccessCAS, At: 5, New: math.MaxUint64, Done: true}},
		{func() { store(t, b, 6, 0, 3) }, api.Access{Kind: api.AccessStore, At: 7, New: 3, Done: true}},
	}
	for n, s := range steps {
		count := a.Count()
		s.do()
		if x, ok := a.Last(); x != s.want || !ok || a.Count() != count+1 {
			t.Errorf("step %d: Last = %+v behind %d accesses, want %+v", n, x, a.Count()-count, s.want)
		}
	}
	wantAt(t, a, 3, junk(3), 3, math.MaxUint64, 7, 3, 0, 8, junk(10))
}

// P2.3: what is stored in the arena is told of the block.
func TestTheArenasWords(t *testing.T) {
	a, b := both(t, 8, 1)
	wantAlloc(t, b, 2, 1)
	if err := a.Store(3, 6); err != nil {
		t.Fatal(err)
	}
	wantLoad(t, b, 1, 1, 6)
}

// P2.4: looks are no accesses, and what Live hands out is the caller's own.
func TestLooks(t *testing.T) {
	a, b := both(t, 30, 1)
	for i := range uint64(4) {
		wantAlloc(t, b, 2, 1+3*i)
	}
	for _, ref := range []uint64{7, 1} {
		free(t, b, ref)
	}
	wantAlloc(t, b, 2, generation+1)
	wantUntouched(t, a, b, func() {
		wantLooks(t, b, 13, 9, generation+1, 4, 10) // by places, whatever their generations
		for i := range b.Live() {
			b.Live()[i] = 9
		}
	})
	live := b.Live()
	free(t, b, 4)
	if !slices.Equal(live, []uint64{generation + 1, 4, 10}) {
		t.Errorf("what was told ahead of a Free is %#x now", live)
	}
}

// Rule 4: of nil, and of what no call made, ErrNil ahead of all else, and nothing.
func TestNil(t *testing.T) {
	for _, b := range []*blocks.Blocks{nil, {}} {
		for _, n := range []int{1, 0, api.MaxBlock + 1} {
			wantAllocRefused(t, b, n, api.ErrNil)
		}
		for _, ref := range []uint64{0, 1, math.MaxUint64} {
			wantErr(t, "Free", b.Free(ref), api.ErrNil, 0)
			n, err := b.Size(ref)
			wantErr(t, "Size", err, api.ErrNil, 0)
			w, err := b.Word(ref, -1)
			wantErr(t, "Word", err, api.ErrNil, 0)
			x, err := b.Load(ref, 0)
			wantErr(t, "Load", err, api.ErrNil, 0)
			wantErr(t, "Store", b.Store(ref, 0, 1), api.ErrNil, 0)
			done, err := b.CAS(ref, 0, 0, 1)
			wantErr(t, "CAS", err, api.ErrNil, 0)
			if n != 0 || w != 0 || x != 0 || done {
				t.Errorf("of nil: Size = %d, Word = %d, Load = %d, CAS: %v", n, w, x, done)
			}
		}
		wantLooks(t, b, 0, 0)
	}
}

// Rule 6: blocks of one arena are not those of another one.
func TestApartFromOthers(t *testing.T) {
	a, b := both(t, 10, 1)
	wantAlloc(t, b, 2, 1)
	other, c := both(t, 10, 1)
	wantLooks(t, c, 1, 0)
	wantStale(t, other, c, 1)
	wantAlloc(t, c, 3, 1)
	free(t, c, 1)
	wantLooks(t, b, 4, 3, 1)
	wantAt(t, a, 1, 5, 0, 0, junk(4))
}

// P2.7: any run of one size takes no more room than as many blocks as were ever live at one time.
func TestRoom(t *testing.T) {
	for seed := range uint64(10) {
		draw := draws(seed)
		n := 1 + int(draw(5))
		_, b := both(t, 1000, 1)
		most := 0
		for range 500 {
			if live := b.Live(); len(live) > 0 && (len(live) > 8 || draw(2) == 0) {
				free(t, b, live[draw(uint64(len(live)))])
			} else if _, err := b.Alloc(n); err != nil {
				t.Fatal(err)
			}
			most = max(most, len(b.Live()))
			if want := 1 + most*(n+1); b.Top() != want {
				t.Fatalf("Top = %d with blocks of %d, of which %d were live at most, want %d", b.Top(), n, most, want)
			}
		}
	}
}

// draws are numbers that look random, and are the same each time.
func draws(seed uint64) func(below uint64) uint64 {
	return func(below uint64) uint64 {
		seed = seed*6364136223846793005 + 1442695040888963407
		return seed >> 33 % below
	}
}
