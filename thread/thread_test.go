package thread_test

import (
	"errors"
	"math"
	"slices"
	"testing"

	"concord/api"
	"concord/blocks"
	"concord/thread"
	"concord/words"
)

// body is a body that does not hang on its round.
type body func(c *thread.Ctx) error

// wantErr looks that an error is that one, and names that place (0: none).
func wantErr(t *testing.T, what string, got error, want api.Errno, at int) {
	t.Helper()
	for e := api.ErrNil; e <= api.ErrKind; e++ {
		if errors.Is(got, e) != (e == want) {
			t.Errorf("%s: %v, want %v", what, got, want)
			return
		}
	}
	if api.Place(got) != at {
		t.Errorf("%s: %v names the place %d, want %d", what, got, api.Place(got), at)
	}
}

// wantFault looks that an error is that one, at that place, which may be 0.
func wantFault(t *testing.T, what string, got error, want api.Errno, at int) {
	t.Helper()
	wantErr(t, what, got, want, at)
	var f *api.Fault
	if !errors.As(got, &f) {
		t.Errorf("%s: %v is no Fault", what, got)
	}
}

// wrapped is an error that a body makes of another one.
type wrapped struct {
	inner error
}

func (w wrapped) Error() string { return "wrapped: " + w.inner.Error() }
func (w wrapped) Unwrap() error { return w.inner }

// open is an arena with one live block of n words at the place 0, whose ref is 0: word i has 10 i.
func open(t *testing.T, room, n int) (*words.Arena, *blocks.Blocks) {
	t.Helper()
	a, err := words.New(room)
	if err != nil {
		t.Fatal(err)
	}
	b, err := blocks.New(a, 0)
	if err != nil {
		t.Fatal(err)
	}
	if ref, err := b.Alloc(n); ref != 0 || err != nil {
		t.Fatalf("Alloc(%d) = %#x, %v", n, ref, err)
	}
	for i := range n {
		store(t, b, 0, i, uint64(10*i))
	}
	return a, b
}

func store(t *testing.T, b *blocks.Blocks, ref uint64, i int, x uint64) {
	t.Helper()
	if err := b.Store(ref, i, x); err != nil {
		t.Fatalf("Store(%#x, %d, %d): %v", ref, i, x, err)
	}
}

func wantWord(t *testing.T, b *blocks.Blocks, ref uint64, i int, want uint64) {
	t.Helper()
	if x, err := b.Load(ref, i); x != want || err != nil {
		t.Errorf("the word %d of %#x is %d, %v, want %d", i, ref, x, err, want)
	}
}

func begin(t *testing.T, b *blocks.Blocks, do body) *thread.Thread {
	t.Helper()
	x := thread.New(b, func(c *thread.Ctx, round int) error { return do(c) })
	if x == nil {
		t.Fatal("New makes none")
	}
	return x
}

// step does a step that goes on.
func step(t *testing.T, x *thread.Thread) {
	t.Helper()
	if err := x.Step(); err != nil || x.Done() {
		t.Fatalf("Step: %v, Done: %v", err, x.Done())
	}
}

// finish does a step that is the last one.
func finish(t *testing.T, x *thread.Thread) {
	t.Helper()
	if err := x.Step(); err != nil || !x.Done() {
		t.Fatalf("Step: %v, Done: %v", err, x.Done())
	}
}

// wantLooks looks at a thread that is not done, or has ended without an error.
func wantLooks(t *testing.T, x *thread.Thread, done bool, round, steps int, log ...api.Entry) {
	t.Helper()
	if x.Done() != done || x.Err() != nil || x.Round() != round || x.Steps() != steps {
		t.Errorf("Done, Err, Round, Steps = %v, %v, %d, %d, want %v, nil, %d, %d", x.Done(), x.Err(), x.Round(), x.Steps(), done, round, steps)
	}
	wantLog(t, x, log...)
}

func wantLog(t *testing.T, x *thread.Thread, want ...api.Entry) {
	t.Helper()
	if got := x.Log(); !slices.Equal(got, want) {
		t.Errorf("Log = %+v, want %+v", got, want)
	}
}

// raise puts one more into a word.
func raise(c *thread.Ctx, ref uint64, i int) error {
	x, err := c.Load(ref, i)
	if err != nil {
		return wrapped{err}
	}
	return c.Store(ref, i, x+1)
}

// The chapter's example.
func TestExample(t *testing.T) {
	a, b := open(t, 20, 3)
	x := begin(t, b, func(c *thread.Ctx) error { return raise(c, 0, 2) })
	count := a.Count()
	loaded := api.Entry{Kind: api.EntryLoad, I: 2, Word: 20}
	stored := api.Entry{Kind: api.EntryStore, I: 2, Word: 21}
	step(t, x)
	wantLooks(t, x, false, 0, 1, loaded)
	finish(t, x)
	wantLooks(t, x, true, 0, 2, loaded, stored)
	if n := a.Count() - count; n != 2 {
		t.Errorf("there were %d accesses, want 2", n)
	}
	wantWord(t, b, 0, 2, 21)
}

// P5.1: a new thread has done nothing, its body neither.
func TestNew(t *testing.T) {
	a, b := open(t, 20, 3)
	count, ran := a.Count(), 0
	x := begin(t, b, func(c *thread.Ctx) error { ran++; return raise(c, 0, 1) })
	wantLooks(t, x, false, 0, 0)
	if a.Count() != count || ran != 0 {
		t.Errorf("New does %d accesses, and runs the body %d times", a.Count()-count, ran)
	}
}

// P5.1: of blocks that have given out none, too.
func TestNewOfNewBlocks(t *testing.T) {
	a, err := words.New(20)
	if err != nil {
		t.Fatal(err)
	}
	for _, from := range []int{0, 1, 19, 20} {
		b, err := blocks.New(a, from)
		if err != nil {
			t.Fatal(err)
		}
		x := begin(t, b, func(c *thread.Ctx) error {
			_, err := c.Alloc(1)
			return err
		})
		if err := x.Step(); !x.Done() || (err == nil) != (from < 19) {
			t.Errorf("Step: %v, Done: %v", err, x.Done())
		}
	}
}

// P5.1: none of blocks, or of a body, that are nil.
func TestNewOfNone(t *testing.T) {
	_, b := open(t, 20, 3)
	do := func(c *thread.Ctx, round int) error { return nil }
	for _, x := range []*thread.Thread{thread.New(nil, do), thread.New(b, nil), thread.New(nil, nil), thread.New(&blocks.Blocks{}, do)} {
		if x != nil {
			t.Errorf("New of none is %v", x)
		}
	}
}

// Rule 4: of a thread that no call made.
func TestNil(t *testing.T) {
	for _, x := range []*thread.Thread{nil, {}} {
		wantErr(t, "Step", x.Step(), api.ErrNil, 0)
		for _, most := range []int{5, 1, 0, -1, math.MaxInt, math.MinInt} {
			wantErr(t, "Run", x.Run(most), api.ErrNil, 0)
		}
		wantLooks(t, x, true, 0, 0)
	}
}

// Rule 4: of a Ctx that no step made.
func TestNilCtx(t *testing.T) {
	for _, c := range []*thread.Ctx{nil, {}} {
		wantAllRefused(t, c, api.ErrNil)
		if c.Left() != 0 {
			t.Errorf("Left = %d", c.Left())
		}
	}
}

// wantAllRefused looks that each access is refused, with nothing else answered.
func wantAllRefused(t *testing.T, c *thread.Ctx, want api.Errno) {
	t.Helper()
	w, err := c.Load(0, 1)
	wantErr(t, "Load", err, want, 0)
	wantErr(t, "Store", c.Store(0, 1, 77), want, 0)
	done, err := c.CAS(0, 1, 10, 77)
	wantErr(t, "CAS", err, want, 0)
	ref, err := c.Alloc(1)
	wantErr(t, "Alloc", err, want, 0)
	wantErr(t, "Free", c.Free(0), want, 0)
	if w != 0 || done || ref != 0 {
		t.Errorf("with an error: Load = %d, CAS: %v, Alloc = %d", w, done, ref)
	}
}

// P5.2: a body that does no access is done in the first step.
func TestNoAccess(t *testing.T) {
	a, b := open(t, 20, 3)
	count, ran := a.Count(), 0
	x := begin(t, b, func(c *thread.Ctx) error { ran++; return nil })
	finish(t, x)
	wantLooks(t, x, true, 0, 1)
	if a.Count() != count || ran != 1 {
		t.Errorf("there were %d accesses, the body ran %d times", a.Count()-count, ran)
	}
}

// P5.2: each step runs the body from its beginning, and does one access more; what was told stays told, whatever others do between.
func TestStep(t *testing.T) {
	a, b := open(t, 20, 3)
	var told [][]uint64
	x := begin(t, b, func(c *thread.Ctx) error {
		told = append(told, nil)
		for _, i := range []int{1, 2, 1} {
			w, err := c.Load(0, i)
			if err != nil {
				return err
			}
			told[len(told)-1] = append(told[len(told)-1], w)
		}
		return c.Store(0, 0, 5)
	})
	for k := range 4 {
		count := a.Count()
		if k < 3 {
			step(t, x)
		} else {
			finish(t, x)
		}
		if n := a.Count() - count; n != 1 {
			t.Errorf("step %d does %d accesses", k, n)
		}
		for i := 1; i < 3; i++ {
			store(t, b, 0, i, uint64(100*k+i))
		}
	}
	want := [][]uint64{{10}, {10, 2}, {10, 2, 101}, {10, 2, 101}}
	if !slices.EqualFunc(told, want, slices.Equal) {
		t.Errorf("told is %v, want %v", told, want)
	}
	wantWord(t, b, 0, 0, 5)
}

// P5.2: the error that a body ends with is the thread's, as it is; nothing is done behind it.
func TestEndWithError(t *testing.T) {
	for _, end := range []error{api.ErrFull, api.ErrCapped, wrapped{api.ErrRetry}, &api.Fault{At: 7, Err: api.ErrAbort}, errors.New("another one"), nil} {
		a, b := open(t, 20, 3)
		ran := 0
		x := begin(t, b, func(c *thread.Ctx) error {
			ran++
			if err := raise(c, 0, 1); err != nil {
				return err
			}
			return end
		})
		step(t, x)
		if err := x.Step(); err != end {
			t.Errorf("Step: %v, want %v", err, end)
		}
		count := a.Count()
		wantEnded(t, x, end, 0, 2, 2)
		if a.Count() != count || ran != 2 {
			t.Errorf("there were %d accesses, the body ran %d times", a.Count()-count, ran)
		}
	}
}

// wantEnded looks that a thread is done, with that error, and that no call changes it any more.
func wantEnded(t *testing.T, x *thread.Thread, end error, round, steps, entries int) {
	t.Helper()
	log := x.Log()
	if len(log) != entries {
		t.Errorf("the log has %d entries, want %d", len(log), entries)
	}
	for range 3 {
		if !x.Done() || x.Err() != end || x.Round() != round || x.Steps() != steps {
			t.Errorf("Done, Err, Round, Steps = %v, %v, %d, %d, want true, %v, %d, %d", x.Done(), x.Err(), x.Round(), x.Steps(), end, round, steps)
		}
		wantLog(t, x, log...)
		if err := x.Step(); err != end {
			t.Errorf("Step of one that is done: %v, want %v", err, end)
		}
		for _, most := range []int{9, 1, 0, -1, math.MaxInt, math.MinInt} {
			if err := x.Run(most); err != end {
				t.Errorf("Run(%d) of one that is done: %v, want %v", most, err, end)
			}
		}
	}
}

// P5.2: an error that wraps ErrYield ends the step, and nothing more, also where it wraps others, and where no access was beyond the log.
func TestYield(t *testing.T) {
	for _, end := range []error{api.ErrYield, wrapped{wrapped{api.ErrYield}}, &api.Fault{At: 3, Err: api.ErrYield}, errors.Join(api.ErrConflict, api.ErrYield), errors.Join(api.ErrFull, api.ErrYield)} {
		_, b := open(t, 20, 3)
		ran := 0
		x := begin(t, b, func(c *thread.Ctx) error {
			ran++
			if _, err := c.Load(0, 1); err != nil {
				t.Errorf("Load: %v", err)
			}
			if ran < 50 {
				return end
			}
			return nil
		})
		for k := 1; k < 50; k++ {
			step(t, x)
			wantLooks(t, x, false, 0, k, api.Entry{Kind: api.EntryLoad, I: 1, Word: 10})
		}
		finish(t, x)
		wantLooks(t, x, true, 0, 50, api.Entry{Kind: api.EntryLoad, I: 1, Word: 10})
	}
}

// P5.2: what counts is what the body answers, not what its accesses did.
func TestYieldThatIsNotAnswered(t *testing.T) {
	_, b := open(t, 20, 3)
	x := begin(t, b, func(c *thread.Ctx) error {
		raise(c, 0, 1)
		return api.ErrRetry
	})
	wantErr(t, "Step", x.Step(), api.ErrRetry, 0)
	wantEnded(t, x, api.ErrRetry, 0, 1, 1)
	wantWord(t, b, 0, 1, 10)
}

// P5.2: an error that wraps ErrConflict begins the next round, with an empty log; what was done stays done.
func TestConflict(t *testing.T) {
	for _, end := range []error{api.ErrConflict, wrapped{wrapped{api.ErrConflict}}, &api.Fault{At: 3, Err: api.ErrConflict}, errors.Join(api.ErrFull, api.ErrConflict)} {
		_, b := open(t, 20, 3)
		var rounds []int
		x := thread.New(b, func(c *thread.Ctx, round int) error {
			rounds = append(rounds, round)
			if err := raise(c, 0, 1); err != nil || round == 2 {
				return err
			}
			return end
		})
		entries := func(w uint64) (api.Entry, api.Entry) {
			return api.Entry{Kind: api.EntryLoad, I: 1, Word: w}, api.Entry{Kind: api.EntryStore, I: 1, Word: w + 1}
		}
		for round := range 2 {
			wantLooks(t, x, false, round, 2*round)
			step(t, x)
			load, _ := entries(uint64(10 + round))
			wantLooks(t, x, false, round, 2*round+1, load)
			step(t, x)
		}
		wantLooks(t, x, false, 2, 4)
		step(t, x)
		finish(t, x)
		load, store := entries(12)
		wantLooks(t, x, true, 2, 6, load, store)
		wantWord(t, b, 0, 1, 13)
		if want := []int{0, 0, 1, 1, 2, 2}; !slices.Equal(rounds, want) {
			t.Errorf("the rounds are %v, want %v", rounds, want)
		}
	}
}

// P5.2: an error that an access answered in one round is not told in the next one.
func TestConflictBehindError(t *testing.T) {
	_, b := open(t, 20, 3)
	x := thread.New(b, func(c *thread.Ctx, round int) error {
		if round == 0 {
			_, err := c.Load(0, 3)
			wantFault(t, "Load", err, api.ErrRange, 3)
			return api.ErrConflict
		}
		_, err := c.Alloc(65)
		wantErr(t, "Alloc", err, api.ErrArg, 0)
		var f *api.Fault
		if errors.As(err, &f) {
			t.Errorf("Alloc: %v names a place", err)
		}
		return nil
	})
	step(t, x)
	finish(t, x)
}

// P5.2: the last round is MaxRounds - 1; a conflict in it ends the thread, and its round and log stay.
func TestTooManyRounds(t *testing.T) {
	for _, end := range []error{api.ErrConflict, wrapped{api.ErrConflict}} {
		_, b := open(t, 20, 3)
		var rounds []int
		x := thread.New(b, func(c *thread.Ctx, round int) error {
			rounds = append(rounds, round)
			if err := raise(c, 0, 1); err != nil {
				return err
			}
			return end
		})
		for range 2*api.MaxRounds - 1 {
			step(t, x)
		}
		wantLooks(t, x, false, api.MaxRounds-1, 2*api.MaxRounds-1, api.Entry{Kind: api.EntryLoad, I: 1, Word: 10 + api.MaxRounds - 1})
		wantErr(t, "Step", x.Step(), api.ErrCapped, 0)
		wantEnded(t, x, api.ErrCapped, api.MaxRounds-1, 2*api.MaxRounds, 2)
		wantWord(t, b, 0, 1, 10+api.MaxRounds)
		for i, round := range rounds {
			if round != i/2 {
				t.Errorf("the round of step %d is %d", i, round)
			}
		}
	}
}

// P5.2: in the last round all else ends as ever.
func TestLastRound(t *testing.T) {
	for _, end := range []error{nil, api.ErrAbort} {
		_, b := open(t, 20, 3)
		x := thread.New(b, func(c *thread.Ctx, round int) error {
			if round < api.MaxRounds-1 {
				return api.ErrConflict
			}
			if err := raise(c, 0, 1); err != nil {
				return err
			}
			return end
		})
		for range api.MaxRounds {
			step(t, x)
		}
		if err := x.Step(); err != end {
			t.Errorf("Step: %v, want %v", err, end)
		}
		wantEnded(t, x, end, api.MaxRounds-1, api.MaxRounds+1, 2)
	}
}

// P5.3: so many steps as are asked for, or fewer, if the thread is done.
func TestRun(t *testing.T) {
	for _, end := range []error{nil, api.ErrFull, wrapped{api.ErrNone}} {
		_, b := open(t, 20, 3)
		x := begin(t, b, func(c *thread.Ctx) error {
			for i := range 10 {
				if err := c.Store(0, 0, uint64(i+1)); err != nil {
					return err
				}
			}
			return end
		})
		steps := 0
		for _, most := range []int{0, 3, -1, 1, 0, math.MinInt, 5} {
			if err := x.Run(most); err != nil {
				t.Errorf("Run(%d): %v", most, err)
			}
			steps += max(most, 0)
			if x.Done() || x.Err() != nil || x.Round() != 0 || x.Steps() != steps || len(x.Log()) != steps {
				t.Errorf("behind %d steps: Done, Err, Round, Steps = %v, %v, %d, %d, and %d entries", steps, x.Done(), x.Err(), x.Round(), x.Steps(), len(x.Log()))
			}
			wantWord(t, b, 0, 0, uint64(steps))
		}
		if err := x.Run(math.MaxInt); err != end {
			t.Errorf("Run to the end: %v, want %v", err, end)
		}
		wantEnded(t, x, end, 0, 10, 10)
	}
}

// P5.3: just so many steps as it takes, and one fewer.
func TestRunToTheEnd(t *testing.T) {
	for _, x := range []struct {
		most, steps int
		end         error
	}{{1, 1, nil}, {2, 2, api.ErrStale}, {3, 2, api.ErrStale}} {
		_, b := open(t, 20, 3)
		th := begin(t, b, func(c *thread.Ctx) error {
			if err := raise(c, 0, 1); err != nil {
				return err
			}
			return api.ErrStale
		})
		if err := th.Run(x.most); err != x.end || th.Err() != x.end || th.Steps() != x.steps || th.Done() != (x.end != nil) {
			t.Errorf("Run(%d): %v, Err, Steps, Done = %v, %d, %v", x.most, err, th.Err(), th.Steps(), th.Done())
		}
	}
}

// P5.3: a round that begins anew does not end it, but the last one does.
func TestRunOverRounds(t *testing.T) {
	_, b := open(t, 20, 3)
	x := begin(t, b, func(c *thread.Ctx) error {
		if err := raise(c, 0, 1); err != nil {
			return err
		}
		return api.ErrConflict
	})
	if err := x.Run(7); err != nil || x.Round() != 3 || x.Steps() != 7 || len(x.Log()) != 1 {
		t.Errorf("Run(7): %v, Round, Steps = %d, %d, Log = %v", err, x.Round(), x.Steps(), x.Log())
	}
	wantErr(t, "Run", x.Run(1000), api.ErrCapped, 0)
	wantEnded(t, x, api.ErrCapped, api.MaxRounds-1, 2*api.MaxRounds, 2)
}

// Rule 3: a log that was handed out is the caller's own.
func TestLogIsACopy(t *testing.T) {
	_, b := open(t, 20, 3)
	x := begin(t, b, func(c *thread.Ctx) error {
		if err := raise(c, 0, 1); err != nil {
			return err
		}
		return raise(c, 0, 2)
	})
	step(t, x)
	step(t, x)
	log := x.Log()
	want := slices.Clone(log)
	for i := range log {
		log[i] = api.Entry{Kind: 99, Word: 1000}
	}
	log = append(log, api.Entry{Kind: 98})
	wantLog(t, x, want...)
	step(t, x)
	finish(t, x)
	wantLog(t, x, want[0], want[1], api.Entry{Kind: api.EntryLoad, I: 2, Word: 20}, api.Entry{Kind: api.EntryStore, I: 2, Word: 21})
	if log[0].Kind != 99 || log[1].Kind != 99 || log[2].Kind != 98 {
		t.Errorf("what was handed out is %v then", log)
	}
	wantWord(t, b, 0, 1, 11)
}

// Threads of one body are apart.
func TestThreadsApart(t *testing.T) {
	_, b := open(t, 20, 3)
	do := func(c *thread.Ctx) error { return raise(c, 0, 1) }
	x, y := begin(t, b, do), begin(t, b, do)
	step(t, x)
	wantLooks(t, y, false, 0, 0)
	step(t, y)
	finish(t, x)
	wantLooks(t, y, false, 0, 1, api.Entry{Kind: api.EntryLoad, I: 1, Word: 10})
	finish(t, y)
	wantWord(t, b, 0, 1, 11)
}

// P1: no step panics, whatever the body does; it is done then.
func TestBodyThatPanics(t *testing.T) {
	var none []int
	for _, panics := range []func(){
		func() { panic("text") },
		func() { panic(7) },
		func() { panic(api.ErrYield) },
		func() { panic(wrapped{api.ErrConflict}) },
		func() { none[len(none)]++ },
	} {
		a, b := open(t, 20, 3)
		x := begin(t, b, func(c *thread.Ctx) error {
			if err := raise(c, 0, 1); err != nil {
				return err
			}
			panics()
			return nil
		})
		step(t, x)
		err := x.Step()
		wantErr(t, "Step", err, api.ErrArg, 0)
		if err == nil || err.Error() == "" {
			t.Errorf("Step: %v has no text", err)
		}
		count := a.Count()
		wantEnded(t, x, err, 0, 2, 2)
		if a.Count() != count {
			t.Errorf("there were %d accesses", a.Count()-count)
		}
	}
}

// P1: an error that may not be asked what it wraps is an error as others are.
func TestErrorThatPanics(t *testing.T) {
	var end *api.Fault
	_, b := open(t, 20, 3)
	x := begin(t, b, func(c *thread.Ctx) error { return end })
	if err := x.Step(); err != error(end) {
		t.Error("Step answers another error")
	}
	if !x.Done() || x.Err() != error(end) || x.Steps() != 1 || x.Round() != 0 {
		t.Errorf("Done, Steps, Round = %v, %d, %d", x.Done(), x.Steps(), x.Round())
	}
}

// P1: a body that asks for steps of its own thread gets none.
func TestStepWithinAStep(t *testing.T) {
	_, b := open(t, 20, 3)
	var x *thread.Thread
	x = begin(t, b, func(c *thread.Ctx) error {
		wantErr(t, "Step", x.Step(), api.ErrArg, 0)
		wantErr(t, "Run", x.Run(math.MaxInt), api.ErrArg, 0)
		return raise(c, 0, 1)
	})
	step(t, x)
	wantLooks(t, x, false, 0, 1, api.Entry{Kind: api.EntryLoad, I: 1, Word: 10})
	finish(t, x)
	wantWord(t, b, 0, 1, 11)
}
