package queue_test

import (
	"math"
	"slices"
	"testing"

	"concord/api"
	"concord/queue"
)

// plainly is which of two timers is ahead, in the chapter's words.
func plainly(x, y api.Timer) int {
	switch {
	case x.When < y.When || x.When == y.When && x.ID < y.ID:
		return -1
	case x == y:
		return 0
	}
	return 1
}

// draws are numbers below a bound that look random, and are the same each time.
func draws(seed uint64) func(below int) int {
	return func(below int) int {
		seed = seed*6364136223846793005 + 1442695040888963407
		x := seed
		x ^= x >> 29
		x *= 0xBF58476D1CE4E5B9
		return int((x ^ x>>32) % uint64(below))
	}
}

// mixed are timers with IDs from 1 on, many of them due at one time.
func mixed(draw func(int) int, n int) []api.Timer {
	var timers []api.Timer
	for id := 1; id <= n; id++ {
		timers = append(timers, at(draw(20)-10, id))
	}
	shuffle(draw, timers)
	return timers
}

func shuffle(draw func(int) int, timers []api.Timer) {
	for i := len(timers) - 1; i > 0; i-- {
		j := draw(i + 1)
		timers[i], timers[j] = timers[j], timers[i]
	}
}

func inOrder(timers []api.Timer) []api.Timer {
	return slices.SortedFunc(slices.Values(timers), plainly)
}

// orders are all orders of some timers.
func orders(timers []api.Timer) [][]api.Timer {
	if len(timers) == 0 {
		return [][]api.Timer{nil}
	}
	var all [][]api.Timer
	for i, x := range timers {
		rest := slices.Delete(slices.Clone(timers), i, i+1)
		for _, o := range orders(rest) {
			all = append(all, append(o, x))
		}
	}
	return all
}

// P4.4: at rising times all timers are told in order, each once, none ahead of its time, and none later than it has to be.
func TestRisingTimes(t *testing.T) {
	for seed := range uint64(50) {
		draw := draws(seed)
		timers := mixed(draw, 1+draw(api.MaxQueue))
		q := with(t, timers...)
		var told []api.Timer
		for now, last := -12, math.MinInt; len(told) < len(timers) && now < 20; now, last = now+draw(4), now {
			for _, x := range q.Due(now) {
				if x.When > now || x.When <= last {
					t.Fatalf("seed %d: %v is told at %d, after %d", seed, x, now, last)
				}
				told = append(told, x)
			}
		}
		if want := inOrder(timers); !slices.Equal(told, want) {
			t.Fatalf("seed %d: told are %v, want %v", seed, told, want)
		}
	}
}

// P4.5: in which order timers were pushed changes nothing.
func TestAnyOrderOfPushes(t *testing.T) {
	timers := []api.Timer{at(1, 5), at(2, 1), at(2, 4), at(2, 6), at(3, 2), at(3, 3)}
	for _, o := range orders(timers) {
		q := with(t, o...)
		wantAll(t, q, timers...)
		wantDue(t, q, 2, timers[:4]...)
		wantAll(t, q, timers[4:]...)
		if t.Failed() {
			t.Fatalf("pushed as %v", o)
		}
	}
}

// P4.5: of many timers, too.
func TestAnyOrderOfManyPushes(t *testing.T) {
	for seed := range uint64(50) {
		draw := draws(seed)
		timers := mixed(draw, api.MaxQueue)
		want := inOrder(timers)
		q := with(t, timers...)
		shuffle(draw, timers)
		other := with(t, timers...)
		for _, x := range []*queue.Queue{q, other} {
			wantAll(t, x, want...)
			wantDue(t, x, math.MaxInt, want...)
		}
	}
}

// P4.6: what was pushed and cancelled was never there, wherever it stood.
func TestPushedAndCancelled(t *testing.T) {
	for seed := range uint64(50) {
		draw := draws(seed)
		timers := mixed(draw, 1+draw(api.MaxQueue))
		stay := draw(len(timers))
		var want []api.Timer
		for _, x := range timers {
			if x.ID <= stay {
				want = append(want, x)
			}
		}
		q, other := with(t, timers...), with(t, want...)
		shuffle(draw, timers)
		for _, x := range timers {
			if x.ID > stay {
				cancel(t, q, x.ID)
			}
		}
		for _, x := range []*queue.Queue{q, other} {
			wantAll(t, x, inOrder(want)...)
			wantIDs(t, x, timers, stay)
			wantDue(t, x, math.MaxInt, inOrder(want)...)
		}
	}
}

// wantIDs looks that just the IDs up to one are there.
func wantIDs(t *testing.T, q *queue.Queue, timers []api.Timer, last int) {
	t.Helper()
	for _, x := range timers {
		if x.ID <= last {
			wantFault(t, "Push", q.Push(x), api.ErrThere, x.ID)
		} else {
			wantFault(t, "Cancel", q.Cancel(x.ID), api.ErrNone, x.ID)
		}
	}
}

// P4.1 to P4.3, P2: any run of calls does what it does to a plain list.
func TestRunsOfCalls(t *testing.T) {
	for seed := range uint64(40) {
		draw := draws(seed)
		r := &run{t: t, q: with(t), draw: draw, ids: 2 + draw(2*api.MaxQueue)}
		for range 1500 {
			r.step()
			wantAll(t, r.q, inOrder(r.timers)...)
			if t.Failed() {
				t.Fatalf("seed %d", seed)
			}
		}
	}
}

// run is a queue beside a list of what is in it.
type run struct {
	t      *testing.T
	q      *queue.Queue
	draw   func(int) int
	ids    int
	timers []api.Timer
}

func (r *run) step() {
	r.t.Helper()
	id, when := r.draw(r.ids)-r.ids/2, r.draw(100)-50
	i := slices.IndexFunc(r.timers, func(x api.Timer) bool { return x.ID == id })
	switch n := r.draw(300); { // seldom due, so that some of the queues get full
	case n == 0:
		r.due(when)
	case n < 50:
		r.cancel(i, id)
	case n < 120:
		r.move(i, id, when)
	default:
		r.push(i, at(when, id))
	}
}

func (r *run) push(i int, x api.Timer) {
	r.t.Helper()
	err := r.q.Push(x)
	switch {
	case i >= 0:
		wantFault(r.t, "Push", err, api.ErrThere, x.ID)
	case len(r.timers) == api.MaxQueue:
		wantErr(r.t, "Push", err, api.ErrMany)
	case err != nil:
		r.t.Errorf("Push(%v): %v", x, err)
	default:
		r.timers = append(r.timers, x)
	}
}

func (r *run) move(i, id, when int) {
	r.t.Helper()
	err := r.q.Move(id, when)
	switch {
	case i < 0:
		wantFault(r.t, "Move", err, api.ErrNone, id)
	case err != nil:
		r.t.Errorf("Move(%d, %d): %v", id, when, err)
	default:
		r.timers[i].When = when
	}
}

func (r *run) cancel(i, id int) {
	r.t.Helper()
	err := r.q.Cancel(id)
	switch {
	case i < 0:
		wantFault(r.t, "Cancel", err, api.ErrNone, id)
	case err != nil:
		r.t.Errorf("Cancel(%d): %v", id, err)
	default:
		r.timers = slices.Delete(r.timers, i, i+1)
	}
}

func (r *run) due(now int) {
	r.t.Helper()
	var due, rest []api.Timer
	for _, x := range r.timers {
		if x.When <= now {
			due = append(due, x)
		} else {
			rest = append(rest, x)
		}
	}
	wantDue(r.t, r.q, now, inOrder(due)...)
	r.timers = rest
}
