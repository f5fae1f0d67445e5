package queue_test

import (
	"errors"
	"math"
	"slices"
	"testing"

	"concord/api"
	"concord/queue"
)

// at is a timer, in the order in which the chapter writes one.
func at(when, id int) api.Timer { return api.Timer{When: when, ID: id} }

// wantErr looks that an error is that one, and no other one, and names no place.
func wantErr(t *testing.T, what string, got error, want api.Errno) {
	t.Helper()
	for e := api.ErrNil; e <= api.ErrKind; e++ {
		if errors.Is(got, e) != (e == want) {
			t.Errorf("%s: %v, want %v", what, got, want)
			return
		}
	}
	var f *api.Fault
	if errors.As(got, &f) {
		t.Errorf("%s: %v names a place", what, got)
	}
}

// wantFault looks that an error is that one at that place, which may be 0.
func wantFault(t *testing.T, what string, got error, want api.Errno, place int) {
	t.Helper()
	var f *api.Fault
	if !errors.As(got, &f) || f == nil {
		t.Errorf("%s: %v is no Fault", what, got)
		return
	}
	if f.At != place || f.Err != want || api.Place(got) != place || !errors.Is(got, want) {
		t.Errorf("%s: %v, want %v at %d", what, got, want, place)
	}
}

// with is a queue with some timers.
func with(t *testing.T, timers ...api.Timer) *queue.Queue {
	t.Helper()
	q := queue.New()
	if q == nil {
		t.Fatal("New makes none")
	}
	push(t, q, timers...)
	return q
}

func push(t *testing.T, q *queue.Queue, timers ...api.Timer) {
	t.Helper()
	for _, x := range timers {
		if err := q.Push(x); err != nil {
			t.Fatalf("Push(%v): %v", x, err)
		}
	}
}

func move(t *testing.T, q *queue.Queue, id, when int) {
	t.Helper()
	if err := q.Move(id, when); err != nil {
		t.Fatalf("Move(%d, %d): %v", id, when, err)
	}
}

func cancel(t *testing.T, q *queue.Queue, id int) {
	t.Helper()
	if err := q.Cancel(id); err != nil {
		t.Fatalf("Cancel(%d): %v", id, err)
	}
}

func wantDue(t *testing.T, q *queue.Queue, now int, want ...api.Timer) {
	t.Helper()
	if due := q.Due(now); !slices.Equal(due, want) {
		t.Errorf("Due(%d) = %v, want %v", now, due, want)
	}
}

// wantAll looks that all looks tell just these timers, in this order.
func wantAll(t *testing.T, q *queue.Queue, want ...api.Timer) {
	t.Helper()
	if all := q.All(); !slices.Equal(all, want) {
		t.Errorf("All = %v, want %v", all, want)
	}
	if n := q.Len(); n != len(want) {
		t.Errorf("Len = %d, want %d", n, len(want))
	}
	first, there := api.Timer{}, len(want) > 0
	if there {
		first = want[0]
	}
	if x, ok := q.Next(); x != first || ok != there {
		t.Errorf("Next = %v, %v, want %v, %v", x, ok, first, there)
	}
}

// full is a queue with as many timers as it may have: of each ID from 1 on, due at 10 times that.
func full(t *testing.T) (*queue.Queue, []api.Timer) {
	t.Helper()
	var timers []api.Timer
	for id := 1; id <= api.MaxQueue; id++ {
		timers = append(timers, at(10*id, id))
	}
	q := with(t, timers...)
	wantAll(t, q, timers...)
	return q, timers
}

// The chapter's example.
func TestExample(t *testing.T) {
	q := with(t, at(5, 1), at(3, 2))
	wantFault(t, "Push {3, 1}", q.Push(at(3, 1)), api.ErrThere, 1)
	wantDue(t, q, 4, at(3, 2))
	wantAll(t, q, at(5, 1))
}

// A new queue has none.
func TestNew(t *testing.T) {
	q := with(t)
	wantAll(t, q)
	wantDue(t, q, math.MaxInt)
	wantFault(t, "Move", q.Move(1, 2), api.ErrNone, 1)
	wantFault(t, "Cancel", q.Cancel(1), api.ErrNone, 1)
}

// P4.1: what was pushed is there, whatever its numbers are.
func TestPush(t *testing.T) {
	q := with(t)
	push(t, q, at(5, 1))
	wantAll(t, q, at(5, 1))
	push(t, q, at(7, 2))
	wantAll(t, q, at(5, 1), at(7, 2))
	push(t, q, at(3, -3))
	wantAll(t, q, at(3, -3), at(5, 1), at(7, 2))
	push(t, q, at(0, 0), at(math.MinInt, math.MaxInt), at(math.MaxInt, math.MinInt))
	wantAll(t, q, at(math.MinInt, math.MaxInt), at(0, 0), at(3, -3), at(5, 1), at(7, 2), at(math.MaxInt, math.MinInt))
}

// P4.1, P2: no two with one ID; the place is the ID, and the one that is there stays as it is.
func TestPushOfOneThatIsThere(t *testing.T) {
	for _, id := range []int{0, 1, -1, 77, math.MinInt, math.MaxInt} {
		q := with(t, at(5, id), at(4, 8), at(6, 9))
		for _, when := range []int{5, 4, 6, 0, math.MinInt, math.MaxInt} {
			wantFault(t, "Push", q.Push(at(when, id)), api.ErrThere, id)
			wantAll(t, q, at(4, 8), at(5, id), at(6, 9))
		}
	}
}

// P4.1, P2: there are MaxQueue at the most; one that is there is told first.
func TestPushOfTooMany(t *testing.T) {
	q, timers := full(t)
	for _, id := range []int{api.MaxQueue + 1, 0, -1, math.MinInt, math.MaxInt} {
		wantErr(t, "Push of one too many", q.Push(at(1, id)), api.ErrMany)
	}
	for _, x := range timers {
		wantFault(t, "Push of one that is there", q.Push(at(1, x.ID)), api.ErrThere, x.ID)
	}
	wantAll(t, q, timers...)
	wantFault(t, "Cancel of one that was refused", q.Cancel(api.MaxQueue+1), api.ErrNone, api.MaxQueue+1)
}

// P4.1: where one went there is room for one.
func TestRoomAgain(t *testing.T) {
	q, timers := full(t)
	cancel(t, q, 100)
	push(t, q, at(-1, 1000))
	wantErr(t, "Push after a Cancel and a Push", q.Push(at(1, 100)), api.ErrMany)
	wantDue(t, q, 20, at(-1, 1000), timers[0], timers[1])
	push(t, q, at(1, 100), at(2, 1), at(3, 2))
	wantErr(t, "Push after a Due and as many Pushes", q.Push(at(1, 1000)), api.ErrMany)
	move(t, q, 200, 0)
	wantErr(t, "Push after a Move", q.Push(at(1, 1000)), api.ErrMany)
	wantDue(t, q, 3, at(0, 200), at(1, 100), at(2, 1), at(3, 2))
}

// P4.1: a timer that was moved is due at its new time, and at that alone.
func TestMove(t *testing.T) {
	q := with(t, at(10, 1), at(20, 2), at(30, 3), at(40, 4))
	move(t, q, 1, 25)
	wantAll(t, q, at(20, 2), at(25, 1), at(30, 3), at(40, 4))
	move(t, q, 4, 5)
	wantAll(t, q, at(5, 4), at(20, 2), at(25, 1), at(30, 3))
	move(t, q, 3, 30)
	wantAll(t, q, at(5, 4), at(20, 2), at(25, 1), at(30, 3))
	move(t, q, 4, 25)
	wantAll(t, q, at(20, 2), at(25, 1), at(25, 4), at(30, 3))
	move(t, q, 2, math.MaxInt)
	wantAll(t, q, at(25, 1), at(25, 4), at(30, 3), at(math.MaxInt, 2))
	move(t, q, 2, math.MinInt)
	wantAll(t, q, at(math.MinInt, 2), at(25, 1), at(25, 4), at(30, 3))
	wantDue(t, q, 24, at(math.MinInt, 2))
}

// P4.1: each one of many, to each place among them.
func TestMoveOfEach(t *testing.T) {
	for id := 1; id <= 9; id++ {
		for when := 5; when <= 95; when += 5 {
			var timers []api.Timer
			for i := 1; i <= 9; i++ {
				timers = append(timers, at(10*i, i))
			}
			q := with(t, timers...)
			move(t, q, id, when)
			timers[id-1].When = when
			slices.SortStableFunc(timers, plainly)
			wantAll(t, q, timers...)
			wantDue(t, q, math.MaxInt, timers...)
		}
	}
}

// P4.1: each one of many, as often as there are others.
func TestCancelOfEach(t *testing.T) {
	for first := 1; first <= 9; first++ {
		for second := 1; second <= 9; second++ {
			q, want := with(t), []api.Timer(nil)
			for i := 1; i <= 9; i++ {
				push(t, q, at(10*((i*2)%9), i))
			}
			cancel(t, q, first)
			if second != first {
				cancel(t, q, second)
			}
			for i := 1; i <= 9; i++ {
				if i != first && i != second {
					want = append(want, at(10*((i*2)%9), i))
				}
			}
			slices.SortStableFunc(want, plainly)
			wantAll(t, q, want...)
			wantDue(t, q, math.MaxInt, want...)
		}
	}
}

// P4.1, P2: what is not there is neither moved nor cancelled; the place is the ID.
func TestOfNone(t *testing.T) {
	q := with(t, at(5, 1), at(3, 2), at(8, 3), at(9, 4))
	cancel(t, q, 3)
	wantDue(t, q, 3, at(3, 2))
	for _, id := range []int{0, 2, 3, 5, -1, math.MinInt, math.MaxInt} { // 2 and 3 were there
		wantFault(t, "Move", q.Move(id, 4), api.ErrNone, id)
		wantFault(t, "Cancel", q.Cancel(id), api.ErrNone, id)
		wantAll(t, q, at(5, 1), at(9, 4))
	}
	cancel(t, q, 1)
	cancel(t, q, 4)
	wantFault(t, "Cancel of the last one again", q.Cancel(4), api.ErrNone, 4)
	wantAll(t, q)
}

// P4.1: an ID that is free again may have another timer.
func TestPushAgain(t *testing.T) {
	q := with(t, at(5, 1), at(6, 2))
	cancel(t, q, 1)
	push(t, q, at(9, 1))
	wantAll(t, q, at(6, 2), at(9, 1))
	wantDue(t, q, 6, at(6, 2))
	push(t, q, at(4, 2))
	wantAll(t, q, at(4, 2), at(9, 1))
	wantFault(t, "Push", q.Push(at(1, 2)), api.ErrThere, 2)
	move(t, q, 1, 3)
	wantAll(t, q, at(3, 1), at(4, 2))
}

// P4.2: the smaller When is ahead, of the same the smaller ID.
func TestNext(t *testing.T) {
	for _, x := range []struct{ ahead, behind api.Timer }{
		{at(1, 2), at(2, 1)},
		{at(1, 1), at(1, 2)},
		{at(0, -1), at(0, 0)},
		{at(0, math.MinInt), at(0, math.MaxInt)},
		{at(math.MinInt, 5), at(math.MaxInt, 4)},
		{at(math.MinInt, 5), at(1, 4)},
		{at(-1, 5), at(math.MaxInt, 4)},
		{at(-2, 1), at(-1, 0)},
	} {
		wantAll(t, with(t, x.ahead, x.behind), x.ahead, x.behind)
		wantAll(t, with(t, x.behind, x.ahead), x.ahead, x.behind)
		wantDue(t, with(t, x.ahead, x.behind), math.MaxInt, x.ahead, x.behind)
		wantDue(t, with(t, x.behind, x.ahead), math.MaxInt, x.ahead, x.behind)
	}
}

// P4.2: to ask for the next one takes nothing out.
func TestNextStays(t *testing.T) {
	q := with(t, at(5, 1), at(3, 2))
	for range 3 {
		wantAll(t, q, at(3, 2), at(5, 1))
	}
	cancel(t, q, 2)
	wantAll(t, q, at(5, 1))
}

// P4.2: due is what is not later; it is gone then, and nothing else is.
func TestDue(t *testing.T) {
	q := with(t, at(5, 4), at(3, 3), at(5, 1), at(6, 2), at(-1, 5))
	wantDue(t, q, math.MinInt)
	wantDue(t, q, -2)
	wantAll(t, q, at(-1, 5), at(3, 3), at(5, 1), at(5, 4), at(6, 2))
	wantDue(t, q, -1, at(-1, 5))
	wantAll(t, q, at(3, 3), at(5, 1), at(5, 4), at(6, 2))
	wantDue(t, q, 5, at(3, 3), at(5, 1), at(5, 4))
	wantAll(t, q, at(6, 2))
	wantDue(t, q, 5)
	for _, id := range []int{5, 3, 1, 4} {
		wantFault(t, "Cancel of one that was due", q.Cancel(id), api.ErrNone, id)
	}
	wantDue(t, q, 6, at(6, 2))
	wantAll(t, q)
	wantDue(t, q, 6)
}

// P4.2: the least and the greatest times there are.
func TestDueAtTheEdges(t *testing.T) {
	q := with(t, at(math.MaxInt, 1), at(math.MinInt, 2), at(math.MaxInt-1, 3), at(math.MinInt+1, 4))
	wantDue(t, q, math.MinInt, at(math.MinInt, 2))
	wantDue(t, q, 0, at(math.MinInt+1, 4))
	wantDue(t, q, math.MaxInt-1, at(math.MaxInt-1, 3))
	wantDue(t, q, math.MaxInt, at(math.MaxInt, 1))
}

// P4.2: all of a full queue.
func TestDueOfAll(t *testing.T) {
	q, timers := full(t)
	wantDue(t, q, 10*api.MaxQueue, timers...)
	wantAll(t, q)
	for _, x := range slices.Backward(timers) {
		push(t, q, x)
	}
	wantAll(t, q, timers...)
}

// P4.3: what is handed out is the caller's own.
func TestHandedOut(t *testing.T) {
	q := with(t, at(1, 1), at(2, 2), at(3, 3))
	all := q.All()
	for i := range all {
		all[i] = at(9, 9)
	}
	wantAll(t, q, at(1, 1), at(2, 2), at(3, 3))
	all = append(q.All(), at(4, 4))
	wantAll(t, q, at(1, 1), at(2, 2), at(3, 3))
	due := q.Due(2)
	push(t, q, at(0, 5), at(1, 6), at(8, 7))
	move(t, q, 3, -1)
	if want := []api.Timer{at(1, 1), at(2, 2)}; !slices.Equal(due, want) {
		t.Errorf("what was due is %v then, want %v", due, want)
	}
	if want := []api.Timer{at(1, 1), at(2, 2), at(3, 3), at(4, 4)}; !slices.Equal(all, want) {
		t.Errorf("what All told is %v then, want %v", all, want)
	}
	for i := range due {
		due[i] = at(-9, 9)
	}
	wantAll(t, q, at(-1, 3), at(0, 5), at(1, 6), at(8, 7))
}

// What is done with one queue changes no other one.
func TestApart(t *testing.T) {
	q, other := with(t, at(1, 1), at(2, 2)), with(t, at(3, 1))
	cancel(t, q, 1)
	move(t, other, 1, 4)
	push(t, q, at(7, 3))
	wantAll(t, q, at(2, 2), at(7, 3))
	wantAll(t, other, at(4, 1))
}

// Rule 4: of a queue that no call made.
func TestNil(t *testing.T) {
	for _, q := range []*queue.Queue{nil, {}} {
		wantErr(t, "Push", q.Push(at(1, 1)), api.ErrNil)
		wantErr(t, "Move", q.Move(1, 2), api.ErrNil)
		wantErr(t, "Cancel", q.Cancel(1), api.ErrNil)
		wantDue(t, q, math.MaxInt)
		wantAll(t, q)
	}
}
