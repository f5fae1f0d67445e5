package meta_test

import (
	"errors"
	"slices"
	"testing"

	"concord/api"
	"concord/blocks"
	"concord/meta"
	"concord/thread"
)

// world is some threads, and what is looked at behind each step, and at their end.
type world struct {
	threads []*thread.Thread
	step    func()
	end     func()
}

func (w *world) begin(b *blocks.Blocks, body func(c *thread.Ctx) error) {
	w.threads = append(w.threads, thread.New(b, func(c *thread.Ctx, _ int) error { return body(c) }))
}

// left are those of its threads that are not done.
func (w *world) left() []*thread.Thread {
	var all []*thread.Thread
	for _, x := range w.threads {
		if !x.Done() {
			all = append(all, x)
		}
	}
	return all
}

// runBy runs it to its end, by picks of how many threads are left.
func (w *world) runBy(pick func(n int) int) {
	for {
		left := w.left()
		if len(left) == 0 {
			break
		}
		left[pick(len(left))].Step()
		if w.step != nil {
			w.step()
		}
	}
	if w.end != nil {
		w.end()
	}
}

// inAllOrders runs a world, made anew each time, in each order in which its steps may be done, and tells how many these are.
func inAllOrders(t *testing.T, build func() *world) int {
	t.Helper()
	type choice struct{ is, of int }
	var choices []choice
	for runs := 1; ; runs++ {
		at := 0
		build().runBy(func(n int) int {
			if at == len(choices) {
				choices = append(choices, choice{0, n})
			}
			at++
			return choices[at-1].is
		})
		if t.Failed() {
			t.Fatalf("by the picks %v", choices)
		}
		for len(choices) > 0 && choices[len(choices)-1].is == choices[len(choices)-1].of-1 {
			choices = choices[:len(choices)-1]
		}
		if len(choices) == 0 {
			return runs
		}
		choices[len(choices)-1].is++
	}
}

// inSomeOrders runs a world, made anew each time, by picks that look random, and are the same each time.
func inSomeOrders(t *testing.T, runs int, build func() *world) {
	t.Helper()
	for seed := range uint64(runs) {
		x := seed*0x9E3779B97F4A7C15 + 1
		build().runBy(func(n int) int {
			x ^= x << 13
			x ^= x >> 7
			x ^= x << 17
			return int(x>>33) % n
		})
		if t.Failed() {
			t.Fatalf("by the picks of the seed %d", seed)
		}
	}
}

// wantOrders looks that there were so many orders at the least.
func wantOrders(t *testing.T, got, least int) {
	t.Helper()
	if got < least {
		t.Errorf("there were %d orders, want %d or more", got, least)
	}
}

// wantConflict looks at an error that a body hid: nothing but a conflict is right.
func wantConflict(t *testing.T, what string, err error) {
	t.Helper()
	wantErr(t, what, err, api.ErrConflict, 0)
}

// pair is a value, and its version.
type pair struct {
	value   uint64
	version int
}

// P6.7: one commits twice, one reads: in each order it is told a value with its own version, and the later one at the end.
func TestWholeInAllOrders(t *testing.T) {
	conflicts, told := 0, map[pair]int{}
	n := inAllOrders(t, func() *world {
		b := open(t, 50)
		cell := lay(t, b, 0, 10)
		w := &world{}
		w.begin(b, func(c *thread.Ctx) error {
			for version := range 2 {
				if err := meta.Lock(c, cell, version, 1); err != nil {
					return err
				}
				if _, err := meta.Commit(c, cell, uint64(11+version), version+1); err != nil {
					return err
				}
			}
			return nil
		})
		var got pair
		var err error
		w.begin(b, func(c *thread.Ctx) error {
			got.value, got.version, err = meta.Read(c, cell)
			return hidden(err)
		})
		w.end = func() {
			wantWords(t, b, cell, pack(2, 0, false, false), 12)
			if err != nil {
				wantConflict(t, "Read", err)
				conflicts++
				return
			}
			told[got]++
			if got.value != uint64(10+got.version) {
				t.Errorf("Read: %+v", got)
			}
		}
		return w
	})
	wantOrders(t, n, 286) // 3 steps among 10
	if len(told) != 3 || conflicts == 0 {
		t.Errorf("told is %v, and there were %d conflicts", told, conflicts)
	}
}

// P6.7, P6.8: two commit over one version, one reads.
func TestTwoCommitInAllOrders(t *testing.T) {
	first := map[pair]int{}
	n := inAllOrders(t, func() *world {
		b := open(t, 50)
		cell := lay(t, b, pack(4, 0, false, false), 10)
		w := &world{}
		var ends [2]error
		for k := range ends {
			w.begin(b, func(c *thread.Ctx) error {
				if ends[k] = meta.Lock(c, cell, 4, 1+k); ends[k] != nil {
					return hidden(ends[k])
				}
				_, ends[k] = meta.Commit(c, cell, uint64(20+k), 5+k)
				return hidden(ends[k])
			})
		}
		var got pair
		var err error
		w.begin(b, func(c *thread.Ctx) error {
			got.value, got.version, err = meta.Read(c, cell)
			return hidden(err)
		})
		w.end = func() {
			done := 0
			if ends[0] != nil {
				done = 1
			}
			if ends[done] != nil {
				t.Errorf("nobody committed: %v", ends)
			}
			wantConflict(t, "Lock", ends[1-done])
			wantWords(t, b, cell, pack(5+done, 0, false, false), uint64(20+done))
			if err != nil {
				wantConflict(t, "Read", err)
				return
			}
			first[got]++
			if got != (pair{10, 4}) && got != (pair{uint64(20 + done), 5 + done}) {
				t.Errorf("Read: %+v, when %d committed", got, done)
			}
		}
		return w
	})
	wantOrders(t, n, 1000)
	if len(first) != 3 {
		t.Errorf("told is %v", first)
	}
}

// P6.8: of three that lock one version just one does, whoever comes first.
func TestOneLocksInAllOrders(t *testing.T) {
	var firsts [3]int
	n := inAllOrders(t, func() *world {
		b := open(t, 50)
		cell := lay(t, b, pack(4, 0, false, false), 10)
		w := &world{}
		var ends [3]error
		for k := range ends {
			w.begin(b, func(c *thread.Ctx) error {
				ends[k] = meta.Lock(c, cell, 4, 1+k)
				return hidden(ends[k])
			})
		}
		w.end = func() {
			locked := 0
			for k, err := range ends {
				if err == nil {
					locked++
					firsts[k]++
					wantWords(t, b, cell, pack(4, 1+k, true, false), 10)
					continue
				}
				wantConflict(t, "Lock", err)
			}
			if locked != 1 {
				t.Errorf("%d lock it: %v", locked, ends)
			}
		}
		return w
	})
	wantOrders(t, n, 90) // two steps of each
	if slices.Contains(firsts[:], 0) {
		t.Errorf("who locks is %v", firsts)
	}
}

// P6.8: several lock a cell with one version and let it go again: at no time do two have it.
func TestOneHoldsInAllOrders(t *testing.T) {
	several := 0
	n := inAllOrders(t, func() *world {
		b := open(t, 50)
		cell := lay(t, b, pack(4, 0, false, false), 10)
		w := &world{}
		var has, had [3]bool
		for k := range has {
			w.begin(b, func(c *thread.Ctx) error {
				has[k] = false
				if err := meta.Lock(c, cell, 4, 1+k); err != nil {
					return hidden(err)
				}
				has[k], had[k] = true, true
				if err := meta.Release(c, cell); err != nil {
					return err
				}
				has[k] = false
				return nil
			})
		}
		w.step = func() {
			if n := count(has[:]); n > 1 {
				t.Errorf("%d have it: %v", n, has)
			}
		}
		w.end = func() {
			wantWords(t, b, cell, pack(4, 0, false, false), 10)
			if count(had[:]) == 0 {
				t.Errorf("nobody had it")
			}
			if count(had[:]) > 1 {
				several++
			}
		}
		return w
	})
	wantOrders(t, n, 1000)
	if several == 0 {
		t.Errorf("nobody had it behind another one")
	}
}

func count(all []bool) int {
	n := 0
	for _, x := range all {
		if x {
			n++
		}
	}
	return n
}

// P6.9: what Ticks answer rises, whoever does them; no two answer the same, and none is left out.
func TestTicksInAllOrders(t *testing.T) {
	n := inAllOrders(t, func() *world {
		b := open(t, 50)
		clock := lay(t, b, 40)
		w := &world{}
		var told []int
		for k := range 3 {
			ticks, noted := 1+k%2, 0
			w.begin(b, func(c *thread.Ctx) error {
				for i := range ticks {
					n, err := meta.Tick(c, clock)
					if err != nil {
						return err
					}
					if i == noted { // the first step that is told it
						told = append(told, n)
						noted++
					}
				}
				return nil
			})
		}
		w.end = func() {
			if !slices.Equal(told, []int{41, 42, 43, 44}) {
				t.Errorf("told is %v", told)
			}
			wantWords(t, b, clock, 44)
		}
		return w
	})
	wantOrders(t, n, 420) // two, four and two steps
}

// raiser is a body that reads a cell, locks it with the version that it read, and commits one more, with the next number of the clock; a conflict begins it anew, in its next round.
func raiser(c *thread.Ctx, clock, cell uint64, owner int, note func(is pair, waited bool)) error {
	value, version, err := meta.Read(c, cell)
	if err != nil {
		return err
	}
	if err := meta.Lock(c, cell, version, owner); err != nil {
		return err
	}
	next, err := meta.Tick(c, clock)
	if errors.Is(err, api.ErrConflict) { // nothing stays locked
		if err := meta.Release(c, cell); err != nil {
			return err
		}
	}
	if err != nil {
		return err
	}
	waited, err := meta.Commit(c, cell, value+1, next)
	if err != nil {
		return err
	}
	note(pair{value + 1, next}, waited)
	return nil
}

// P6.7, P6.8, P6.9: several raise a cell, some read it, and some wait for it, by picks of all kinds: nothing is lost, all pairs that are told are whole, and who waits for a version is told of to the one that commits the next one.
func TestManyInSomeOrders(t *testing.T) {
	const raisers = 4
	waits := 0
	inSomeOrders(t, 1500, func() *world {
		b := open(t, 50)
		clock, cell := lay(t, b, 0), lay(t, b, 0, 0)
		w := &world{}
		type done struct {
			pair
			waited bool
		}
		are := []done{{}}
		var told []pair
		var waiting []int
		for k := range raisers {
			w.begin(b, func(c *thread.Ctx) error {
				return raiser(c, clock, cell, 1+k, func(is pair, waited bool) { are = append(are, done{is, waited}) })
			})
		}
		for range 2 {
			w.begin(b, func(c *thread.Ctx) error {
				value, version, err := meta.Read(c, cell)
				if err == nil {
					told = append(told, pair{value, version})
				}
				return err
			})
			w.begin(b, func(c *thread.Ctx) error {
				m, err := meta.Peek(c, cell)
				if err != nil {
					return err
				}
				if err := meta.Await(c, cell, m.Version); err != nil {
					return err
				}
				waiting = append(waiting, m.Version)
				return nil
			})
		}
		w.end = func() {
			for k, x := range w.threads {
				if x.Err() != nil {
					t.Errorf("the thread %d: %v", k, x.Err())
				}
			}
			if len(are) != raisers+1 {
				t.Fatalf("committed is %v", are)
			}
			last := are[raisers]
			left := slices.Contains(waiting, last.version)
			wantWords(t, b, cell, pack(last.version, 0, false, left), raisers)
			for k, x := range are {
				if x.value != uint64(k) || k > 0 && x.version <= are[k-1].version {
					t.Errorf("committed is %v", are)
				}
				if k > 0 && x.waited != slices.Contains(waiting, are[k-1].version) {
					t.Errorf("committed is %v, where the versions %v were waited for", are, waiting)
				}
				if x.waited {
					waits++
				}
			}
			for _, x := range told {
				if !slices.ContainsFunc(are, func(is done) bool { return is.pair == x }) {
					t.Errorf("told is %v, committed %v", told, are)
				}
			}
		}
		return w
	})
	if waits == 0 {
		t.Errorf("nobody waited")
	}
}
