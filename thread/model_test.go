package thread_test

import (
	"errors"
	"iter"
	"slices"
	"testing"

	"concord/api"
	"concord/blocks"
	"concord/thread"
	"concord/words"
)

// draws are numbers below a bound that look random, and are the same each time.
type draws struct {
	seed uint64
}

func (d *draws) below(n int) int {
	d.seed = d.seed*6364136223846793005 + 1442695040888963407
	x := d.seed
	x ^= x >> 29
	x *= 0xBF58476D1CE4E5B9
	return int((x ^ x>>32) % uint64(n))
}

// wander is a body of n accesses, each of which hangs on what those ahead told, and notes that; some of its rounds end with a conflict, but none from the round 5 on.
func wander(m memory, seed uint64, n, round int, told *[]api.Entry) error {
	d := &draws{seed*1000 + uint64(round)}
	refs := []uint64{0}
	for range n {
		e, err := next(d, refs).do(m)
		if errors.Is(err, api.ErrYield) {
			return wrapped{err}
		}
		*told = append(*told, e)
		d.seed += e.Word + uint64(e.Err) + uint64(api.Place(err))
		if e.Done {
			d.seed += 1000
		}
		if e.Kind == api.EntryAlloc && err == nil {
			refs = append(refs, e.Ref)
			d.seed += e.Ref
		}
	}
	switch d.below(4) {
	case 0:
		return api.ErrNone
	case 1:
		return nil
	}
	if round < 5 {
		return wrapped{api.ErrConflict}
	}
	return nil
}

// next is some access of one of some blocks, live or not.
func next(d *draws, refs []uint64) access {
	ref, i := refs[d.below(len(refs))], d.below(4)-d.below(2)*d.below(2)
	switch d.below(9) {
	case 0:
		return alloc(d.below(4))
	case 1:
		return free(refs[len(refs)-1])
	case 2, 3:
		return put(ref, i, uint64(d.below(3)))
	case 4, 5, 6:
		return swap(ref, i, uint64(d.below(3)), uint64(d.below(3)))
	}
	return load(ref, i)
}

// wantSame looks that two arenas, and their blocks, are the same, and as many accesses were done of each.
func wantSame(t *testing.T, a, a2 *words.Arena, b, b2 *blocks.Blocks) {
	t.Helper()
	if !slices.Equal(a.Words(), a2.Words()) || a.Count() != a2.Count() {
		t.Fatalf("the words are %v, behind %d accesses, want %v, behind %d", a.Words(), a.Count(), a2.Words(), a2.Count())
	}
	if !slices.Equal(b.Live(), b2.Live()) || b.Top() != b2.Top() {
		t.Fatalf("live is %#x, want %#x", b.Live(), b2.Live())
	}
}

// P5.6: a body that runs alone, step by step, does what it does at once, and is told the same.
func TestAloneAsAtOnce(t *testing.T) {
	for seed := range uint64(200) {
		n := 1 + int(seed%40)
		a, b := open(t, 40, 3)
		a2, b2 := open(t, 40, 3)
		var told, want []api.Entry
		x := thread.New(b, func(c *thread.Ctx, round int) error {
			told = nil
			return wander(c, seed, n, round, &told)
		})
		var err, end error
		round := 0
		for ; ; round++ {
			want = nil
			if end = wander(b2, seed, n, round, &want); !errors.Is(end, api.ErrConflict) {
				break
			}
		}
		if err = x.Run(1000); !x.Done() || !sameErr(err, end) || x.Round() != round || x.Steps() != n*(round+1) {
			t.Fatalf("seed %d: %v, %v in round %d behind %d steps, want %v in round %d behind %d", seed, x.Done(), err, x.Round(), x.Steps(), end, round, n*(round+1))
		}
		if !slices.Equal(told, want) || !slices.Equal(x.Log(), want) {
			t.Fatalf("seed %d: told is %+v, and the log %+v, want %+v", seed, told, x.Log(), want)
		}
		wantSame(t, a, a2, b, b2)
	}
}

// coroutine is what a thread is in the plainest way: its body runs once a round, and stops ahead of each access.
type coroutine struct {
	b     *blocks.Blocks
	seed  uint64
	n     int
	round int
	told  []api.Entry
	end   error
	done  bool
	goOn  func() (int, bool)
	stop  func()
	pause func(int) bool
}

func (x *coroutine) begin() {
	x.told = nil
	x.goOn, x.stop = iter.Pull(func(yield func(int) bool) {
		x.pause = yield
		x.end = wander(x, x.seed, x.n, x.round, &x.told)
	})
	x.goOn()
}

// step does the access ahead of which the body stands.
func (x *coroutine) step() {
	if x.done {
		return
	}
	if _, more := x.goOn(); more {
		return
	}
	x.stop()
	if errors.Is(x.end, api.ErrConflict) {
		x.round++
		x.begin()
		return
	}
	x.done = true
}

func (x *coroutine) Load(ref uint64, i int) (uint64, error) { x.pause(0); return x.b.Load(ref, i) }

func (x *coroutine) Store(ref uint64, i int, w uint64) error {
	x.pause(0)
	return x.b.Store(ref, i, w)
}

func (x *coroutine) CAS(ref uint64, i int, old, next uint64) (bool, error) {
	x.pause(0)
	return x.b.CAS(ref, i, old, next)
}

func (x *coroutine) Alloc(n int) (uint64, error) { x.pause(0); return x.b.Alloc(n) }

func (x *coroutine) Free(ref uint64) error { x.pause(0); return x.b.Free(ref) }

// P5.2, P5.5: several threads, picked in any order, do step by step what bodies do that stop ahead of each access.
func TestPicksAsCoroutines(t *testing.T) {
	for seed := range uint64(100) {
		d := &draws{seed}
		a, b := open(t, 60, 3)
		a2, b2 := open(t, 60, 3)
		var threads []*thread.Thread
		var plain []*coroutine
		for k := range 2 + d.below(3) {
			x := &coroutine{b: b2, seed: seed*10 + uint64(k), n: 1 + d.below(20)}
			x.begin()
			plain = append(plain, x)
			threads = append(threads, thread.New(b, func(c *thread.Ctx, round int) error {
				return wander(c, x.seed, x.n, round, new([]api.Entry))
			}))
		}
		for slices.ContainsFunc(plain, func(x *coroutine) bool { return !x.done }) {
			k := d.below(len(threads))
			x, y := threads[k], plain[k]
			count := a.Count()
			x.Step()
			y.step()
			wantOneAccess(t, x, a.Count()-count)
			wantSame(t, a, a2, b, b2)
			if x.Done() != y.done || x.Round() != y.round || y.done && !sameErr(x.Err(), y.end) || !slices.Equal(x.Log(), y.told) {
				t.Fatalf("seed %d: %v, %v in round %d with %+v, want %v, %v in round %d with %+v", seed, x.Done(), x.Err(), x.Round(), x.Log(), y.done, y.end, y.round, y.told)
			}
		}
	}
}

// wantOneAccess looks that the arena had no more accesses than the last one of a thread has.
func wantOneAccess(t *testing.T, x *thread.Thread, n int) {
	t.Helper()
	most := 1
	if log := x.Log(); len(log) > 0 && log[len(log)-1].Kind == api.EntryAlloc || len(log) == 0 {
		most = 1 + api.MaxBlock
	}
	if n > most {
		t.Fatalf("a step does %d accesses of the arena", n)
	}
}

// P5.7: whenever their steps are done, threads are told the same, as long as none stores or frees what is another one's.
func TestApartWheneverPicked(t *testing.T) {
	want := logs(t, func(last int) int { return last })
	for seed := range uint64(50) {
		d := &draws{seed}
		for k, log := range logs(t, func(int) int { return d.below(3) }) {
			if len(log) != 30 || !slices.Equal(log, want[k]) {
				t.Fatalf("seed %d: thread %d is told %+v, want %+v", seed, k, log, want[k])
			}
		}
	}
}

// logs are those of three threads that each have a block of their own, and load words of one that nobody changes; picked is a thread, of which is told which is the first one that is not done.
func logs(t *testing.T, pick func(first int) int) [][]api.Entry {
	t.Helper()
	_, b := open(t, 60, 3)
	var threads []*thread.Thread
	for k := range 3 {
		ref, err := b.Alloc(3)
		if err != nil {
			t.Fatal(err)
		}
		threads = append(threads, begin(t, b, func(c *thread.Ctx) error {
			return stroll(c, &draws{uint64(k)}, ref)
		}))
	}
	first := func() int {
		return slices.IndexFunc(threads, func(x *thread.Thread) bool { return !x.Done() })
	}
	for first() >= 0 {
		threads[pick(first())].Step()
	}
	var all [][]api.Entry
	for _, x := range threads {
		all = append(all, x.Log())
	}
	return all
}

// stroll is a body that stores in one block alone, and loads words of the first one too.
func stroll(c *thread.Ctx, d *draws, ref uint64) error {
	for range 30 {
		x := next(d, []uint64{ref})
		if x.entry.Kind >= api.EntryAlloc {
			x = load(0, d.below(3))
		}
		e, err := x.do(c)
		if errors.Is(err, api.ErrYield) {
			return err
		}
		d.seed += e.Word
		if e.Done {
			d.seed += 1000
		}
	}
	return nil
}
