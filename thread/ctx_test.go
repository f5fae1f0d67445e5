package thread_test

import (
	"errors"
	"math"
	"slices"
	"testing"

	"concord/api"
	"concord/blocks"
	"concord/thread"
	"concord/words"
)

const generation = 1 << 32 // of a ref

// memory is what does accesses: blocks, or a Ctx.
type memory interface {
	Load(ref uint64, i int) (uint64, error)
	Store(ref uint64, i int, x uint64) error
	CAS(ref uint64, i int, old, next uint64) (bool, error)
	Alloc(n int) (uint64, error)
	Free(ref uint64) error
}

// access is an access, as an entry of a log tells what is asked for; old is what a CAS expects.
type access struct {
	entry api.Entry
	old   uint64
}

func load(ref uint64, i int) access {
	return access{entry: api.Entry{Kind: api.EntryLoad, Ref: ref, I: i}}
}

func put(ref uint64, i int, x uint64) access {
	return access{entry: api.Entry{Kind: api.EntryStore, Ref: ref, I: i, Word: x}}
}

func swap(ref uint64, i int, old, next uint64) access {
	return access{api.Entry{Kind: api.EntryCAS, Ref: ref, I: i, Word: next}, old}
}

func alloc(n int) access { return access{entry: api.Entry{Kind: api.EntryAlloc, I: n}} }

func free(ref uint64) access { return access{entry: api.Entry{Kind: api.EntryFree, Ref: ref}} }

// do does it, and is the entry that a log has of it, and the error.
func (x access) do(m memory) (e api.Entry, err error) {
	e = x.entry
	switch e.Kind {
	case api.EntryLoad:
		e.Word, err = m.Load(e.Ref, e.I)
	case api.EntryStore:
		err = m.Store(e.Ref, e.I, e.Word)
	case api.EntryCAS:
		e.Done, err = m.CAS(e.Ref, e.I, x.old, e.Word)
	case api.EntryAlloc:
		e.Ref, err = m.Alloc(e.I)
	case api.EntryFree:
		err = m.Free(e.Ref)
	}
	errors.As(err, &e.Err)
	return e, err
}

// sameErr tells whether two errors have one number, and name one place, or none.
func sameErr(x, y error) bool {
	var f, g *api.Fault
	if errors.As(x, &f) != errors.As(y, &g) || api.Place(x) != api.Place(y) {
		return false
	}
	for e := api.ErrNil; e <= api.ErrKind; e++ {
		if errors.Is(x, e) != errors.Is(y, e) {
			return false
		}
	}
	return (x == nil) == (y == nil)
}

// fixture is an arena of 20 words from the place 0 on: a live block of 3 words at 0 (0, 10, 20), two that were freed, at 4 (1 word) and 6 (2 words), and a live one of 1 word at 9; Top 11.
func fixture(t *testing.T) (*words.Arena, *blocks.Blocks) {
	t.Helper()
	a, b := open(t, 20, 3)
	for i, n := range []int{1, 2, 1} {
		if _, err := b.Alloc(n); err != nil {
			t.Fatalf("Alloc %d: %v", i, err)
		}
	}
	for _, ref := range []uint64{4, 6} {
		if err := b.Free(ref); err != nil {
			t.Fatal(err)
		}
	}
	return a, b
}

// edges are accesses that are done, and such that are refused, and what the log says of each, done first of all; with a Fault it names that place.
func edges() []struct {
	x     access
	log   api.Entry
	fault bool
	at    int
} {
	const top = math.MaxUint64
	return []struct {
		x     access
		log   api.Entry
		fault bool
		at    int
	}{
		{x: load(0, 2), log: api.Entry{Kind: 1, I: 2, Word: 20}},
		{x: load(0, 0), log: api.Entry{Kind: 1}},
		{x: load(9, 0), log: api.Entry{Kind: 1, Ref: 9}},
		{x: load(0, 3), log: api.Entry{Kind: 1, I: 3, Err: api.ErrRange}, fault: true, at: 3},
		{x: load(0, -1), log: api.Entry{Kind: 1, I: -1, Err: api.ErrRange}, fault: true, at: -1},
		{x: load(6, 5), log: api.Entry{Kind: 1, Ref: 6, I: 5, Err: api.ErrStale}, fault: true, at: 6},
		{x: load(7*generation, 0), log: api.Entry{Kind: 1, Ref: 7 * generation, Err: api.ErrStale}, fault: true},
		{x: put(0, 2, 7), log: api.Entry{Kind: 2, I: 2, Word: 7}},
		{x: put(9, 0, top), log: api.Entry{Kind: 2, Ref: 9, Word: top}},
		{x: put(0, 3, 7), log: api.Entry{Kind: 2, I: 3, Word: 7, Err: api.ErrRange}, fault: true, at: 3},
		{x: put(4, 0, 7), log: api.Entry{Kind: 2, Ref: 4, Word: 7, Err: api.ErrStale}, fault: true, at: 4},
		{x: swap(0, 2, 20, 8), log: api.Entry{Kind: 3, I: 2, Word: 8, Done: true}},
		{x: swap(0, 2, 21, 8), log: api.Entry{Kind: 3, I: 2, Word: 8}},
		{x: swap(0, 2, 20, 20), log: api.Entry{Kind: 3, I: 2, Word: 20, Done: true}},
		{x: swap(0, 3, 0, 8), log: api.Entry{Kind: 3, I: 3, Word: 8, Err: api.ErrRange}, fault: true, at: 3},
		{x: swap(6, 0, 0, 8), log: api.Entry{Kind: 3, Ref: 6, Word: 8, Err: api.ErrStale}, fault: true, at: 6},
		{x: alloc(1), log: api.Entry{Kind: 4, Ref: generation + 4, I: 1}},
		{x: alloc(8), log: api.Entry{Kind: 4, Ref: 11, I: 8}},
		{x: alloc(9), log: api.Entry{Kind: 4, I: 9, Err: api.ErrFull}},
		{x: alloc(0), log: api.Entry{Kind: 4, Err: api.ErrArg}},
		{x: alloc(65), log: api.Entry{Kind: 4, I: 65, Err: api.ErrArg}},
		{x: alloc(math.MinInt), log: api.Entry{Kind: 4, I: math.MinInt, Err: api.ErrArg}},
		{x: free(9), log: api.Entry{Kind: 5, Ref: 9}},
		{x: free(0), log: api.Entry{Kind: 5}},
		{x: free(4), log: api.Entry{Kind: 5, Ref: 4, Err: api.ErrStale}},
		{x: free(top), log: api.Entry{Kind: 5, Ref: top, Err: api.ErrStale}},
	}
}

// The chapter's words: an access of a Ctx is that of the blocks, and the log tells what it told, also of one that is refused.
func TestAccess(t *testing.T) {
	for _, x := range edges() {
		a, b := fixture(t)
		a2, b2 := fixture(t)
		want, wantErr := x.x.do(b2)
		var got api.Entry
		var err error
		th := begin(t, b, func(c *thread.Ctx) error {
			got, err = x.x.do(c)
			return nil
		})
		finish(t, th)
		if got != want || !sameErr(err, wantErr) {
			t.Errorf("%+v: %+v, %v, want %+v, %v", x.x, got, err, want, wantErr)
		}
		wantLooks(t, th, true, 0, 1, x.log)
		if x.fault {
			wantFault(t, "the access", err, x.log.Err, x.at)
		}
		if !slices.Equal(a.Words(), a2.Words()) || a.Count() != a2.Count() {
			t.Errorf("%+v: the words are %v, want %v", x.x, a.Words(), a2.Words())
		}
	}
}

// The chapter's words: what the log has is not done anew, and answers what it answered, the error too, whatever others did since.
func TestAccessAnew(t *testing.T) {
	for _, x := range edges() {
		a, b := fixture(t)
		var first api.Entry
		var firstErr error
		ran := 0
		th := begin(t, b, func(c *thread.Ctx) error {
			ran++
			got, err := x.x.do(c)
			if ran == 1 {
				first, firstErr = got, err
				return api.ErrYield
			}
			if got != first || !sameErr(err, firstErr) {
				t.Errorf("%+v: %+v, %v in step %d, ahead %+v, %v", x.x, got, err, ran, first, firstErr)
			}
			return api.ErrYield
		})
		step(t, th)
		for _, other := range []access{put(0, 2, 500), free(9), alloc(1), alloc(2), free(0), alloc(3)} {
			other.do(b)
			count, all, live := a.Count(), a.Words(), b.Live()
			step(t, th)
			if a.Count() != count || !slices.Equal(a.Words(), all) || !slices.Equal(b.Live(), live) {
				t.Errorf("%+v is done anew", x.x)
			}
			wantLog(t, th, x.log)
		}
	}
}

// P1: a body that does another access than the log has at that place is told what the log says; with an error all else is zero.
func TestOtherAccessAnew(t *testing.T) {
	for _, x := range edges() {
		for _, y := range edges() {
			a, b := fixture(t)
			now := x.x
			var got api.Entry
			var err error
			th := begin(t, b, func(c *thread.Ctx) error {
				got, err = now.do(c)
				return api.ErrYield
			})
			step(t, th)
			count, first := a.Count(), err
			now = y.x
			step(t, th)
			if a.Count() != count || !sameErr(err, first) {
				t.Errorf("%+v in place of %+v: %v, want %v, and %d accesses", y.x, x.x, err, first, a.Count()-count)
			}
			if err != nil && (got.Done || y.x.entry.Kind == api.EntryLoad && got.Word != 0 || y.x.entry.Kind == api.EntryAlloc && got.Ref != 0) {
				t.Errorf("%+v in place of %+v: %+v with an error", y.x, x.x, got)
			}
			wantLog(t, th, x.log)
		}
	}
}

// Rule 3: an error that was told is the body's own.
func TestErrorsAreTheBodysOwn(t *testing.T) {
	_, b := fixture(t)
	x := begin(t, b, func(c *thread.Ctx) error {
		_, err := c.Load(0, 3)
		wantFault(t, "Load", err, api.ErrRange, 3)
		var f *api.Fault
		if errors.As(err, &f) {
			f.At, f.Err = 99, api.ErrKind
		}
		return api.ErrYield
	})
	for range 5 {
		step(t, x)
	}
	wantLog(t, x, api.Entry{Kind: api.EntryLoad, I: 3, Err: api.ErrRange})
}

// The chapter's words: an access that is refused is one too, and behind it each one answers ErrYield.
func TestAccessBehind(t *testing.T) {
	for _, x := range edges() {
		a, b := fixture(t)
		th := begin(t, b, func(c *thread.Ctx) error {
			x.x.do(c)
			count, all, live := a.Count(), a.Words(), b.Live()
			for range 2 {
				wantAllRefused(t, c, api.ErrYield)
			}
			if a.Count() != count || !slices.Equal(a.Words(), all) || !slices.Equal(b.Live(), live) {
				t.Errorf("behind %+v an access is done", x.x)
			}
			return api.ErrYield
		})
		step(t, th)
		wantLog(t, th, x.log)
	}
}

// The chapter's words: the k-th step does the k-th access, also where those ahead were refused.
func TestAccessesInOrder(t *testing.T) {
	_, b := fixture(t)
	_, b2 := fixture(t)
	var want []api.Entry
	var all []access
	for _, x := range edges() {
		all = append(all, x.x)
	}
	th := begin(t, b, func(c *thread.Ctx) error {
		for _, x := range all {
			if _, err := x.do(c); errors.Is(err, api.ErrYield) {
				return err
			}
		}
		return nil
	})
	for k, x := range all {
		e, _ := x.do(b2)
		want = append(want, e)
		if k < len(all)-1 {
			step(t, th)
		} else {
			finish(t, th)
		}
		wantLooks(t, th, k == len(all)-1, 0, k+1, want...)
	}
}

// P5.2, P5.4: a log has MaxLog entries at the most; what is beyond that is not done.
func TestFullLog(t *testing.T) {
	a, b := open(t, 20, 3)
	atEnd := func(c *thread.Ctx) error { return nil }
	x := begin(t, b, func(c *thread.Ctx) error {
		for i := range api.MaxLog {
			if left := c.Left(); left != api.MaxLog-i {
				t.Fatalf("Left = %d behind %d", left, i)
			}
			if err := c.Store(0, 1, uint64(i)); err != nil {
				return err
			}
		}
		return atEnd(c)
	})
	if err := x.Run(api.MaxLog - 1); err != nil || x.Done() || len(x.Log()) != api.MaxLog-1 {
		t.Fatalf("Run: %v, Done: %v, and %d entries", err, x.Done(), len(x.Log()))
	}
	atEnd = func(c *thread.Ctx) error { // the last entry is this step's: what is behind is over first
		wantAllRefused(t, c, api.ErrYield)
		return c.Store(0, 2, 8)
	}
	step(t, x)
	count := a.Count()
	atEnd = func(c *thread.Ctx) error {
		wantAllRefused(t, c, api.ErrCapped)
		if left := c.Left(); left != 0 {
			t.Errorf("Left = %d of a full log", left)
		}
		return api.ErrYield
	}
	for range 3 {
		step(t, x)
	}
	atEnd = func(c *thread.Ctx) error { return wrapped{c.Store(0, 2, 8)} }
	err := x.Step()
	wantErr(t, "Step", err, api.ErrCapped, 0)
	wantEnded(t, x, err, 0, api.MaxLog+4, api.MaxLog)
	if a.Count() != count {
		t.Errorf("%d accesses of a full log are done", a.Count()-count)
	}
	wantWord(t, b, 0, 1, api.MaxLog-1)
	wantWord(t, b, 0, 2, 20)
}

// P5.2: a body with MaxLog accesses ends as others do, and the next round has a log of its own.
func TestFullLogAnew(t *testing.T) {
	_, b := open(t, 20, 3)
	x := thread.New(b, func(c *thread.Ctx, round int) error {
		for range api.MaxLog {
			if _, err := c.Load(0, 1); err != nil {
				return err
			}
			if round == 1 {
				return nil
			}
		}
		return api.ErrConflict
	})
	if err := x.Run(api.MaxLog); err != nil || x.Done() || x.Round() != 1 || len(x.Log()) != 0 {
		t.Fatalf("Run: %v, Done, Round = %v, %d, and %d entries", err, x.Done(), x.Round(), len(x.Log()))
	}
	finish(t, x)
	wantLooks(t, x, true, 1, api.MaxLog+1, api.Entry{Kind: api.EntryLoad, I: 1, Word: 10})
}

// P5.4, P5.6: Left tells the same in each step, at the same place of the body: one fewer for each access ahead, a refused one too; behind the step's end no fewer.
func TestLeft(t *testing.T) {
	_, b := open(t, 20, 3)
	ran := 0
	x := thread.New(b, func(c *thread.Ctx, round int) error {
		ran++
		for k := range 5 {
			if left := c.Left(); left != api.MaxLog-k {
				t.Errorf("round %d: Left = %d behind %d accesses", round, left, k)
			}
			if _, err := c.Load(0, k); errors.Is(err, api.ErrYield) {
				if left := c.Left(); left != api.MaxLog-k {
					t.Errorf("round %d: Left = %d behind %d accesses, and one that was over", round, left, k)
				}
				return err
			}
		}
		if round < 2 {
			return api.ErrConflict
		}
		return nil
	})
	if err := x.Run(100); err != nil || !x.Done() || ran != 15 {
		t.Errorf("Run: %v, Done: %v, in %d steps", err, x.Done(), ran)
	}
}

// A Ctx is its step's: who keeps it does nothing by it any more.
func TestCtxThatIsKept(t *testing.T) {
	a, b := open(t, 20, 3)
	var kept []*thread.Ctx
	x := begin(t, b, func(c *thread.Ctx) error {
		kept = append(kept, c)
		if len(kept) == 1 {
			return api.ErrYield
		}
		return raise(c, 0, 1)
	})
	for range 3 {
		if err := x.Step(); err != nil {
			t.Fatalf("Step: %v", err)
		}
		count, log := a.Count(), x.Log()
		for _, c := range kept {
			wantAllRefused(t, c, api.ErrYield)
		}
		if a.Count() != count {
			t.Errorf("%d accesses are done behind the step", a.Count()-count)
		}
		wantLog(t, x, log...)
	}
	if !x.Done() {
		t.Error("it is not done")
	}
}
