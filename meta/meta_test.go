package meta_test

import (
	"errors"
	"math"
	"slices"
	"strings"
	"testing"

	"concord/api"
	"concord/bits"
	"concord/blocks"
	"concord/meta"
	"concord/thread"
	"concord/words"
)

// answer is all that a call answers, beside its error: each has a part of its own.
type answer struct {
	word uint64 // a ref, or a value
	n    int
	meta api.Meta
	yes  bool
}

// call is one of the layer's calls, with all its arguments, or all but the block.
type call struct {
	name string
	do   func(c *thread.Ctx, ref uint64) (answer, error)
}

func newClock() call {
	return call{"NewClock", func(c *thread.Ctx, _ uint64) (answer, error) {
		ref, err := meta.NewClock(c)
		return answer{word: ref}, err
	}}
}

func now() call {
	return call{"Now", func(c *thread.Ctx, ref uint64) (answer, error) {
		n, err := meta.Now(c, ref)
		return answer{n: n}, err
	}}
}

func tick() call {
	return call{"Tick", func(c *thread.Ctx, ref uint64) (answer, error) {
		n, err := meta.Tick(c, ref)
		return answer{n: n}, err
	}}
}

func newCell(value uint64) call {
	return call{"NewCell", func(c *thread.Ctx, _ uint64) (answer, error) {
		ref, err := meta.NewCell(c, value)
		return answer{word: ref}, err
	}}
}

func read() call {
	return call{"Read", func(c *thread.Ctx, ref uint64) (answer, error) {
		value, n, err := meta.Read(c, ref)
		return answer{word: value, n: n}, err
	}}
}

func peek() call {
	return call{"Peek", func(c *thread.Ctx, ref uint64) (answer, error) {
		m, err := meta.Peek(c, ref)
		return answer{meta: m}, err
	}}
}

func lock(version, owner int) call {
	return call{"Lock", func(c *thread.Ctx, ref uint64) (answer, error) {
		return answer{}, meta.Lock(c, ref, version, owner)
	}}
}

func commit(value uint64, version int) call {
	return call{"Commit", func(c *thread.Ctx, ref uint64) (answer, error) {
		yes, err := meta.Commit(c, ref, value, version)
		return answer{yes: yes}, err
	}}
}

func release() call {
	return call{"Release", func(c *thread.Ctx, ref uint64) (answer, error) {
		return answer{}, meta.Release(c, ref)
	}}
}

func await(version int) call {
	return call{"Await", func(c *thread.Ctx, ref uint64) (answer, error) {
		return answer{}, meta.Await(c, ref, version)
	}}
}

// Entries of a log, as the thread lays them down.

func loaded(ref uint64, i int, w uint64) api.Entry {
	return api.Entry{Kind: api.EntryLoad, Ref: ref, I: i, Word: w}
}

func stored(ref uint64, i int, w uint64) api.Entry {
	return api.Entry{Kind: api.EntryStore, Ref: ref, I: i, Word: w}
}

func swapped(ref uint64, i int, w uint64, done bool) api.Entry {
	return api.Entry{Kind: api.EntryCAS, Ref: ref, I: i, Word: w, Done: done}
}

func given(ref uint64, n int) api.Entry {
	return api.Entry{Kind: api.EntryAlloc, Ref: ref, I: n}
}

// refusedAs is an entry of an access that answered an error.
func refusedAs(e api.Entry, err api.Errno) api.Entry {
	e.Err = err
	return e
}

func entries(all ...api.Entry) []api.Entry { return all }

// pack is a Meta's word, put together by hand.
func pack(version, owner int, changing, waiting bool) uint64 {
	w := uint64(version)*65536 + uint64(owner)*256
	if changing {
		w++
	}
	if waiting {
		w += 2
	}
	return w
}

func open(t *testing.T, room int) *blocks.Blocks {
	t.Helper()
	a, err := words.New(room)
	if err != nil {
		t.Fatal(err)
	}
	b, err := blocks.New(a, 3) // so that no ref is 0
	if err != nil {
		t.Fatal(err)
	}
	return b
}

// lay is a new block with those words.
func lay(t *testing.T, b *blocks.Blocks, all ...uint64) uint64 {
	t.Helper()
	ref, err := b.Alloc(len(all))
	if err != nil {
		t.Fatal(err)
	}
	for i, w := range all {
		put(t, b, ref, i, w)
	}
	return ref
}

func put(t *testing.T, b *blocks.Blocks, ref uint64, i int, w uint64) {
	t.Helper()
	if err := b.Store(ref, i, w); err != nil {
		t.Fatal(err)
	}
}

func free(t *testing.T, b *blocks.Blocks, ref uint64) {
	t.Helper()
	if err := b.Free(ref); err != nil {
		t.Fatal(err)
	}
}

func wantWords(t *testing.T, b *blocks.Blocks, ref uint64, want ...uint64) {
	t.Helper()
	if n, err := b.Size(ref); n != len(want) || err != nil {
		t.Fatalf("Size(%#x) = %d, %v, want %d", ref, n, err, len(want))
	}
	for i, w := range want {
		if x, err := b.Load(ref, i); x != w || err != nil {
			t.Errorf("the word %d of %#x is %#x, %v, want %#x", i, ref, x, err, w)
		}
	}
}

// wantErr looks that an error is that one (0: none), and names that place (0: none).
func wantErr(t *testing.T, what string, got error, want api.Errno, at int) {
	t.Helper()
	if (got == nil) != (want == 0) {
		t.Errorf("%s: %v, want %v", what, got, want)
		return
	}
	for e := api.ErrNil; e <= api.ErrKind; e++ {
		if errors.Is(got, e) != (e == want) {
			t.Errorf("%s: %v, want %v", what, got, want)
			return
		}
	}
	if api.Place(got) != at {
		t.Errorf("%s: %v names the place %d, want %d", what, got, api.Place(got), at)
	}
}

// came is what came of a call that a thread of its own did: its answer, and what it did.
type came struct {
	answer
	err error
	log []api.Entry
}

// run runs a call by a thread of its own; ahead of each step, from 0 on, others do what between says. Till its end it answers nothing but that the step is over, and each step does one access.
func run(t *testing.T, b *blocks.Blocks, x call, ref uint64, between func(step int)) came {
	t.Helper()
	var got came
	one := thread.New(b, func(c *thread.Ctx, _ int) error {
		got.answer, got.err = x.do(c, ref)
		return hidden(got.err)
	})
	for k := 0; !one.Done(); k++ {
		between(k)
		one.Step()
		if n := len(one.Log()); n != k+1 {
			t.Fatalf("%s: behind the step %d its log has %d entries", x.name, k, n)
		}
		if !one.Done() && (!errors.Is(got.err, api.ErrYield) || got.answer != answer{}) {
			t.Fatalf("%s: behind the step %d: %+v, %v", x.name, k, got.answer, got.err)
		}
	}
	got.log = one.Log()
	return got
}

// hidden is what a body answers: just that its step is over. Else a conflict would begin its next round.
func hidden(err error) error {
	if errors.Is(err, api.ErrYield) {
		return err
	}
	return nil
}

func nobody(int) {}

// wantCame runs a call, and looks what it answers, and which accesses it does; an error of its own, that is none of an access, names it.
func wantCame(t *testing.T, b *blocks.Blocks, x call, ref uint64, between func(step int), want answer, wrong api.Errno, log []api.Entry) {
	t.Helper()
	got := run(t, b, x, ref, between)
	if got.answer != want {
		t.Errorf("%s: %+v, want %+v", x.name, got.answer, want)
	}
	wantErr(t, x.name, got.err, wrong, 0)
	if !slices.Equal(got.log, log) {
		t.Errorf("%s: its accesses are %+v, want %+v", x.name, got.log, log)
	}
	if own := wrong == api.ErrConflict || wrong == api.ErrArg; own && got.err != nil && !strings.Contains(got.err.Error(), x.name) {
		t.Errorf("%s: %q does not name it", x.name, got.err)
	}
}

// wantAlone looks likewise at a call that is alone, with nothing changed between.
func wantAlone(t *testing.T, b *blocks.Blocks, x call, ref uint64, want answer, wrong api.Errno, log ...api.Entry) {
	t.Helper()
	wantCame(t, b, x, ref, nobody, want, wrong, log)
}

// The chapter's example.
func TestExample(t *testing.T) {
	b := open(t, 100)
	cell := run(t, b, newCell(7), 0, nobody).word
	for _, x := range []struct {
		call
		want  answer
		wrong api.Errno
	}{
		{read(), answer{word: 7}, 0},
		{lock(0, 3), answer{}, 0},
		{read(), answer{}, api.ErrConflict},
		{commit(8, 5), answer{}, 0},
		{read(), answer{word: 8, n: 5}, 0},
		{lock(0, 3), answer{}, api.ErrConflict},
	} {
		got := run(t, b, x.call, cell, nobody)
		if got.answer != x.want {
			t.Errorf("%s: %+v, want %+v", x.name, got.answer, x.want)
		}
		wantErr(t, x.name, got.err, x.wrong, 0)
	}
}

// P6.1: a block of one word, which is 0, also where there was another one.
func TestNewClock(t *testing.T) {
	b := open(t, 100)
	wantAlone(t, b, newClock(), 0, answer{word: 3}, 0, given(3, 1))
	wantWords(t, b, 3, 0)
	put(t, b, 3, 0, 99)
	free(t, b, 3)
	wantAlone(t, b, newClock(), 0, answer{word: 1<<32 + 3}, 0, given(1<<32+3, 1))
	wantWords(t, b, 1<<32+3, 0)
}

// P6.1: a block of two words: the version 0 and nothing else, and the value, also if that is 0.
func TestNewCell(t *testing.T) {
	b := open(t, 100)
	for k, value := range []uint64{7, 0, 1, math.MaxUint64, 1 << 63} {
		ref := uint64(3 + 3*k)
		wantAlone(t, b, newCell(value), 0, answer{word: ref}, 0, given(ref, 2), stored(ref, 1, value))
		wantWords(t, b, ref, 0, value)
	}
	put(t, b, 3, 0, pack(5, 6, true, true))
	free(t, b, 3)
	wantAlone(t, b, newCell(4), 0, answer{word: 1<<32 + 3}, 0, given(1<<32+3, 2), stored(1<<32+3, 1, 4))
	wantWords(t, b, 1<<32+3, 0, 4)
}

// P6.1: there is no room.
func TestNewWithoutRoom(t *testing.T) {
	b := open(t, 4)
	wantAlone(t, b, newClock(), 0, answer{}, api.ErrFull, refusedAs(given(0, 1), api.ErrFull))
	wantAlone(t, b, newCell(7), 0, answer{}, api.ErrFull, refusedAs(given(0, 2), api.ErrFull))
	b = open(t, 5) // for a clock, and no cell
	wantAlone(t, b, newCell(7), 0, answer{}, api.ErrFull, refusedAs(given(0, 2), api.ErrFull))
	wantAlone(t, b, newClock(), 0, answer{word: 3}, 0, given(3, 1))
}

// P6.1: the cell is freed by somebody else ahead of the Store.
func TestNewCellThatIsFreed(t *testing.T) {
	b := open(t, 100)
	got := run(t, b, newCell(7), 0, func(step int) {
		if step == 1 {
			free(t, b, 3)
		}
	})
	wantErr(t, "NewCell", got.err, api.ErrStale, 3)
	if want := entries(given(3, 2), refusedAs(stored(3, 1, 7), api.ErrStale)); got.answer != (answer{}) || !slices.Equal(got.log, want) {
		t.Errorf("NewCell: %+v, with %+v, want %+v", got.answer, got.log, want)
	}
	if live := b.Live(); len(live) != 0 {
		t.Errorf("live is %v", live)
	}
}

// P6.1: behind an error of its Store NewCell does no access more.
func TestBehindNewCell(t *testing.T) {
	b := open(t, 100)
	ref := lay(t, b, 70)
	one := thread.New(b, func(c *thread.Ctx, _ int) error {
		if _, err := meta.NewCell(c, 7); errors.Is(err, api.ErrYield) {
			return err
		}
		_, err := c.Load(ref, 0)
		return err
	})
	one.Step()
	free(t, b, one.Log()[0].Ref)
	if err := one.Run(10); err != nil {
		t.Errorf("Run: %v", err)
	}
	if want := entries(given(5, 2), refusedAs(stored(5, 1, 7), api.ErrStale), loaded(ref, 0, 70)); !slices.Equal(one.Log(), want) {
		t.Errorf("the accesses are %+v, want %+v", one.Log(), want)
	}
}

// P6.2: what the clock shows, and one more.
func TestNowAndTick(t *testing.T) {
	b := open(t, 100)
	clock := lay(t, b, 0)
	for _, w := range []uint64{0, 1, 2, 41, 1<<16 - 1, 1<<31 - 1, 1<<32 - 1, api.MaxVersion - 1, api.MaxVersion, 1<<62 - 1, 1<<63 - 2} {
		put(t, b, clock, 0, w)
		wantAlone(t, b, now(), clock, answer{n: int(w)}, 0, loaded(clock, 0, w))
		wantWords(t, b, clock, w)
		wantAlone(t, b, tick(), clock, answer{n: int(w) + 1}, 0, loaded(clock, 0, w), swapped(clock, 0, w+1, true))
		wantWords(t, b, clock, w+1)
	}
}

// P6.2: words that are no number of a clock go round as words do.
func TestClockGoesRound(t *testing.T) {
	b := open(t, 100)
	for _, w := range []uint64{1<<63 - 1, 1 << 63, math.MaxUint64 - 1, math.MaxUint64} {
		clock := lay(t, b, w)
		wantAlone(t, b, now(), clock, answer{n: int(w)}, 0, loaded(clock, 0, w))
		wantAlone(t, b, tick(), clock, answer{n: int(w + 1)}, 0, loaded(clock, 0, w), swapped(clock, 0, w+1, true))
	}
}

// P6.2: a clock is the word 0 of whatever block.
func TestClockOfMoreWords(t *testing.T) {
	b := open(t, 100)
	clock := lay(t, b, 4, 70)
	wantAlone(t, b, now(), clock, answer{n: 4}, 0, loaded(clock, 0, 4))
	wantAlone(t, b, tick(), clock, answer{n: 5}, 0, loaded(clock, 0, 4), swapped(clock, 0, 5, true))
	wantWords(t, b, clock, 5, 70)
}

// versions are some at the edges.
func versions() []int {
	return []int{0, 1, 5, 255, 256, 1<<32 - 1, 1 << 32, api.MaxVersion - 1, api.MaxVersion}
}

// owners are some at the edges.
func owners() []int { return []int{0, 1, 3, 128, 254, api.MaxOwner} }

// sides are all that the flags of a Meta may be.
func sides() [][2]bool {
	return [][2]bool{{false, false}, {false, true}, {true, false}, {true, true}}
}

// metas are Metas of all kinds.
func metas() []api.Meta {
	var all []api.Meta
	for _, version := range versions() {
		for _, owner := range owners() {
			for _, s := range sides() {
				all = append(all, api.Meta{Version: version, Owner: owner, Changing: s[0], Waiting: s[1]})
			}
		}
	}
	return all
}

func word(m api.Meta) uint64 { return pack(m.Version, m.Owner, m.Changing, m.Waiting) }

// P6.3: one Load, whatever the Meta.
func TestPeek(t *testing.T) {
	b := open(t, 100)
	cell := lay(t, b, 0, 77)
	for _, m := range metas() {
		put(t, b, cell, 0, word(m))
		wantAlone(t, b, peek(), cell, answer{meta: m}, 0, loaded(cell, 0, word(m)))
		wantWords(t, b, cell, word(m), 77)
	}
}

// P6.3: three Loads, or one of a cell that is locked.
func TestRead(t *testing.T) {
	b := open(t, 100)
	cell := lay(t, b, 0, 0)
	for k, m := range metas() {
		w, value := word(m), []uint64{0, 1, 77, 1 << 63, math.MaxUint64}[k%5]
		put(t, b, cell, 0, w)
		put(t, b, cell, 1, value)
		if m.Changing {
			wantAlone(t, b, read(), cell, answer{}, api.ErrConflict, loaded(cell, 0, w))
		} else {
			wantAlone(t, b, read(), cell, answer{word: value, n: m.Version}, 0, loaded(cell, 0, w), loaded(cell, 1, value), loaded(cell, 0, w))
		}
		wantWords(t, b, cell, w, value)
	}
}

// P6.4: with its version a cell that is not locked is locked; all else is a conflict, and changes nothing.
func TestLock(t *testing.T) {
	b := open(t, 100)
	cell := lay(t, b, 0, 77)
	for k, m := range metas() {
		w, owner := word(m), owners()[k%len(owners())]
		for _, version := range []int{m.Version, m.Version + 1, m.Version - 1, m.Version + 1<<48, -m.Version - 1, math.MinInt, math.MaxInt} {
			put(t, b, cell, 0, w)
			if m.Changing || version != m.Version {
				wantAlone(t, b, lock(version, owner), cell, answer{}, api.ErrConflict, loaded(cell, 0, w))
				wantWords(t, b, cell, w, 77)
				continue
			}
			locked := pack(m.Version, owner, true, m.Waiting)
			wantAlone(t, b, lock(version, owner), cell, answer{}, 0, loaded(cell, 0, w), swapped(cell, 0, locked, true))
			wantWords(t, b, cell, locked, 77)
		}
	}
}

// P6.4: an owner that may not be is told behind the conflicts, and ahead of the CAS.
func TestLockOfNobody(t *testing.T) {
	b := open(t, 100)
	cell := lay(t, b, 0, 77)
	for _, owner := range []int{-1, api.MaxOwner + 1, 512, math.MinInt, math.MaxInt, 1 << 32} {
		for _, m := range metas() {
			w := word(m)
			put(t, b, cell, 0, w)
			if m.Changing {
				wantAlone(t, b, lock(m.Version, owner), cell, answer{}, api.ErrConflict, loaded(cell, 0, w))
			} else {
				wantAlone(t, b, lock(m.Version, owner), cell, answer{}, api.ErrArg, loaded(cell, 0, w))
				wantAlone(t, b, lock(m.Version+1, owner), cell, answer{}, api.ErrConflict, loaded(cell, 0, w))
			}
			wantWords(t, b, cell, w, 77)
		}
	}
}

// P6.5: a cell that is locked gets the value and the version, and nothing else; of another one ErrArg, and nothing changes.
func TestCommit(t *testing.T) {
	b := open(t, 100)
	cell := lay(t, b, 0, 0)
	for k, m := range metas() {
		w, value := word(m), []uint64{0, 1, 8, 1 << 63, math.MaxUint64}[k%5]
		for _, version := range versions() {
			put(t, b, cell, 0, w)
			put(t, b, cell, 1, 77)
			if !m.Changing {
				wantAlone(t, b, commit(value, version), cell, answer{}, api.ErrArg, loaded(cell, 0, w))
				wantWords(t, b, cell, w, 77)
				continue
			}
			plain := pack(version, 0, false, false)
			wantAlone(t, b, commit(value, version), cell, answer{yes: m.Waiting}, 0, loaded(cell, 0, w), stored(cell, 1, value), stored(cell, 0, plain))
			wantWords(t, b, cell, plain, value)
		}
	}
}

// P6.5: a version that can't be packed is told ahead of the last Store alone.
func TestCommitOfNoVersion(t *testing.T) {
	b := open(t, 100)
	cell := lay(t, b, 0, 0)
	for _, version := range []int{-1, api.MaxVersion + 1, math.MinInt, math.MaxInt} {
		for _, m := range metas() {
			w := word(m)
			put(t, b, cell, 0, w)
			put(t, b, cell, 1, 77)
			if !m.Changing {
				wantAlone(t, b, commit(8, version), cell, answer{}, api.ErrArg, loaded(cell, 0, w))
				wantWords(t, b, cell, w, 77)
				continue
			}
			wantAlone(t, b, commit(8, version), cell, answer{}, api.ErrArg, loaded(cell, 0, w), stored(cell, 1, 8))
			wantWords(t, b, cell, w, 8)
		}
	}
}

// P6.5: a cell that is locked has its version and Waiting, and nothing else; of another one ErrArg, and nothing changes.
func TestRelease(t *testing.T) {
	b := open(t, 100)
	cell := lay(t, b, 0, 77)
	for _, m := range metas() {
		w := word(m)
		put(t, b, cell, 0, w)
		if !m.Changing {
			wantAlone(t, b, release(), cell, answer{}, api.ErrArg, loaded(cell, 0, w))
			wantWords(t, b, cell, w, 77)
			continue
		}
		let := pack(m.Version, 0, false, m.Waiting)
		wantAlone(t, b, release(), cell, answer{}, 0, loaded(cell, 0, w), stored(cell, 0, let))
		wantWords(t, b, cell, let, 77)
	}
}

// P6.6: with its version a cell that is not locked has Waiting; where it has that already there is no CAS; all else is a conflict, and changes nothing.
func TestAwait(t *testing.T) {
	b := open(t, 100)
	cell := lay(t, b, 0, 77)
	for _, m := range metas() {
		w := word(m)
		for _, version := range []int{m.Version, m.Version + 1, m.Version - 1, m.Version + 1<<48, -m.Version - 1, math.MinInt, math.MaxInt} {
			put(t, b, cell, 0, w)
			switch {
			case m.Changing || version != m.Version:
				wantAlone(t, b, await(version), cell, answer{}, api.ErrConflict, loaded(cell, 0, w))
			case m.Waiting:
				wantAlone(t, b, await(version), cell, answer{}, 0, loaded(cell, 0, w))
			default:
				w = pack(m.Version, m.Owner, false, true)
				wantAlone(t, b, await(version), cell, answer{}, 0, loaded(cell, 0, word(m)), swapped(cell, 0, w, true))
			}
			wantWords(t, b, cell, w, 77)
		}
	}
}

// all are calls of all kinds that look at a block first.
func all() []call {
	return []call{now(), tick(), read(), peek(), lock(5, 1), commit(8, 6), release(), await(5)}
}

// P1, rule 4: of a Ctx that no step made.
func TestNilCtx(t *testing.T) {
	for _, c := range []*thread.Ctx{nil, {}} {
		for _, x := range append(all(), newClock(), newCell(7), lock(-1, -1), commit(1, -1), await(-1)) {
			for _, ref := range []uint64{0, 3, math.MaxUint64} {
				got, err := x.do(c, ref)
				wantErr(t, x.name, err, api.ErrNil, 0)
				if got != (answer{}) {
					t.Errorf("%s: %+v", x.name, got)
				}
			}
		}
	}
}

// P1, P2: of a block that is none, errors are those of the access, with its place.
func TestStale(t *testing.T) {
	b := open(t, 100)
	gone := lay(t, b, 0, 7)
	free(t, b, gone)
	lay(t, b, 4, 70)
	for _, ref := range []uint64{gone, 0, 4, 2<<32 + 3, math.MaxUint64, 99} {
		for _, x := range append(all(), lock(-1, -1), commit(1, -1), await(-1)) {
			got := run(t, b, x, ref, nobody)
			wantErr(t, x.name, got.err, api.ErrStale, int(ref%(1<<32)))
			if want := entries(refusedAs(loaded(ref, 0, 0), api.ErrStale)); got.answer != (answer{}) || !slices.Equal(got.log, want) {
				t.Errorf("%s: %+v, with %+v, want %+v", x.name, got.answer, got.log, want)
			}
		}
	}
	wantWords(t, b, 1<<32+3, 4, 70)
}

// P1, P2: a block that is freed between is told by each access as it is; nothing else is answered.
func TestFreedBetween(t *testing.T) {
	for _, x := range []struct {
		call
		first uint64 // the word 0
		steps int    // how many accesses it does
	}{
		{now(), 4, 1},
		{tick(), 4, 2},
		{peek(), pack(5, 2, true, true), 1},
		{read(), pack(5, 2, false, true), 3},
		{lock(5, 1), pack(5, 2, false, true), 2},
		{commit(8, 6), pack(5, 2, true, true), 3},
		{release(), pack(5, 2, true, true), 2},
		{await(5), pack(5, 2, false, false), 2},
	} {
		for at := range x.steps {
			b := open(t, 100)
			lay(t, b, 1)
			ref := lay(t, b, x.first, 7)
			got := run(t, b, x.call, ref, func(step int) {
				if step == at {
					free(t, b, ref)
				}
			})
			wantErr(t, x.name, got.err, api.ErrStale, 5)
			if got.answer != (answer{}) || len(got.log) != at+1 {
				t.Errorf("%s: %+v, with %+v", x.name, got.answer, got.log)
			}
		}
	}
}

// P1: a cell that has no value.
func TestCellOfOneWord(t *testing.T) {
	b := open(t, 100)
	short := lay(t, b, pack(5, 0, false, false))
	got := run(t, b, read(), short, nobody)
	wantErr(t, "Read", got.err, api.ErrRange, 1)
	if want := entries(loaded(short, 0, pack(5, 0, false, false)), refusedAs(loaded(short, 1, 0), api.ErrRange)); got.answer != (answer{}) || !slices.Equal(got.log, want) {
		t.Errorf("Read: %+v, with %+v, want %+v", got.answer, got.log, want)
	}
	put(t, b, short, 0, pack(5, 1, true, true))
	got = run(t, b, commit(8, 6), short, nobody)
	wantErr(t, "Commit", got.err, api.ErrRange, 1)
	if want := entries(loaded(short, 0, pack(5, 1, true, true)), refusedAs(stored(short, 1, 8), api.ErrRange)); got.answer != (answer{}) || !slices.Equal(got.log, want) {
		t.Errorf("Commit: %+v, with %+v, want %+v", got.answer, got.log, want)
	}
	wantWords(t, b, short, pack(5, 1, true, true))
}

// P1: a log that has room for some of a call's accesses: the next one answers that as it is, whatever was done ahead.
func TestNoRoomInTheLog(t *testing.T) {
	for _, x := range []struct {
		call
		first uint64
		steps int
	}{
		{tick(), 4, 2},
		{newCell(7), 0, 2},
		{read(), pack(5, 2, false, true), 3},
		{lock(5, 1), pack(5, 2, false, true), 2},
		{commit(8, 6), pack(5, 2, true, true), 3},
		{release(), pack(5, 2, true, true), 2},
		{await(5), pack(5, 2, false, false), 2},
	} {
		for left := 1; left < x.steps; left++ {
			t.Run(x.name, func(t *testing.T) {
				t.Parallel()
				wantCapped(t, x.first, left, x.call)
			})
		}
	}
}

// P1: a log that has no room at all.
func TestFullLog(t *testing.T) {
	t.Parallel()
	wantCapped(t, pack(5, 0, false, false), 0, append(all(), newClock(), newCell(7))...)
}

// wantCapped looks at calls where the log has room for so many accesses more, which the first one of them does.
func wantCapped(t *testing.T, first uint64, left int, calls ...call) {
	t.Helper()
	b := open(t, 100)
	ref := lay(t, b, first, 7)
	one := thread.New(b, func(c *thread.Ctx, _ int) error {
		for c.Left() > left {
			if _, err := c.Load(ref, 1); err != nil {
				return err
			}
		}
		for _, x := range calls {
			got, err := x.do(c, ref)
			if errors.Is(err, api.ErrYield) {
				return err
			}
			wantErr(t, x.name, err, api.ErrCapped, 0)
			if got != (answer{}) || c.Left() != 0 {
				t.Errorf("%s with room for %d: %+v, with room for %d more", x.name, left, got, c.Left())
			}
		}
		return nil
	})
	if err := one.Run(2 * api.MaxLog); err != nil || !one.Done() || len(one.Log()) != api.MaxLog {
		t.Errorf("%v, with %d entries", err, len(one.Log()))
	}
}

// Rule 7: a call by a Ctx whose step is over answers that, and nothing else; it does nothing.
func TestYield(t *testing.T) {
	for _, x := range append(all(), newClock(), newCell(7)) {
		b := open(t, 100)
		ref := lay(t, b, pack(5, 0, false, false), 7)
		ran := false
		one := thread.New(b, func(c *thread.Ctx, _ int) error {
			if _, err := c.Load(ref, 1); err != nil {
				return err
			}
			got, err := x.do(c, ref)
			if !ran {
				ran = true
				wantErr(t, x.name, err, api.ErrYield, 0)
				if got != (answer{}) {
					t.Errorf("%s: %+v", x.name, got)
				}
			}
			return api.ErrYield
		})
		if err := one.Step(); err != nil || !ran || len(one.Log()) != 1 {
			t.Errorf("%s: %v, with %+v", x.name, err, one.Log())
		}
		wantWords(t, b, ref, pack(5, 0, false, false), 7)
		if n := len(b.Live()); n != 1 {
			t.Errorf("%s: %d blocks are live", x.name, n)
		}
	}
}

// What can't be done names the call, and wraps its number; errors of accesses are as they are.
func TestErrorsNameTheCall(t *testing.T) {
	b := open(t, 100)
	open, locked := lay(t, b, pack(5, 0, false, false), 7), lay(t, b, pack(5, 1, true, false), 7)
	for _, x := range []struct {
		call
		ref   uint64
		wrong api.Errno
	}{
		{read(), locked, api.ErrConflict},
		{lock(5, 1), locked, api.ErrConflict},
		{lock(4, 1), open, api.ErrConflict},
		{lock(5, -1), open, api.ErrArg},
		{commit(8, 6), open, api.ErrArg},
		{commit(8, -1), locked, api.ErrArg},
		{release(), open, api.ErrArg},
		{await(5), locked, api.ErrConflict},
		{await(4), open, api.ErrConflict},
	} {
		err := run(t, b, x.call, x.ref, nobody).err
		wantErr(t, x.name, err, x.wrong, 0)
		if !strings.Contains(err.Error(), x.name) || !strings.Contains(err.Error(), x.wrong.Error()) {
			t.Errorf("%s: the text is %q", x.name, err)
		}
	}
	for _, x := range all() {
		var plain *api.Fault
		if err := run(t, b, x, 99, nobody).err; !errors.As(err, &plain) || err != plain {
			t.Errorf("%s: %v is not the access's own error", x.name, err)
		}
	}
}

// Bits that no Meta has are no part of it, and are gone behind what is laid there; the CAS is of the word as it was.
func TestOtherBits(t *testing.T) {
	b := open(t, 100)
	cell := lay(t, b, 0, 77)
	for k := 2; k < 8; k++ {
		w := pack(5, 2, false, true) + 1<<k
		put(t, b, cell, 0, w)
		wantAlone(t, b, peek(), cell, answer{meta: bits.Unpack(pack(5, 2, false, true))}, 0, loaded(cell, 0, w))
		wantAlone(t, b, read(), cell, answer{word: 77, n: 5}, 0, loaded(cell, 0, w), loaded(cell, 1, 77), loaded(cell, 0, w))
		wantAlone(t, b, await(5), cell, answer{}, 0, loaded(cell, 0, w))
		locked := pack(5, 3, true, true)
		wantAlone(t, b, lock(5, 3), cell, answer{}, 0, loaded(cell, 0, w), swapped(cell, 0, locked, true))
		put(t, b, cell, 0, locked+1<<k)
		wantAlone(t, b, release(), cell, answer{}, 0, loaded(cell, 0, locked+1<<k), stored(cell, 0, pack(5, 0, false, true)))
	}
}
