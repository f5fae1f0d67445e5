package model_test

import (
	"errors"
	"math"
	"slices"
	"testing"

	"concord/api"
	"concord/model"
)

func pair(key, value int) api.Pair { return api.Pair{Key: key, Value: value} }

// wantErr looks that an error is that one, and no other one, and names no place.
func wantErr(t *testing.T, what string, got error, want api.Errno) {
	t.Helper()
	for e := api.ErrNil; e <= api.ErrKind; e++ {
		if errors.Is(got, e) != (e == want) {
			t.Errorf("%s: %v, want %v", what, got, want)
			return
		}
	}
	var f *api.Fault
	if errors.As(got, &f) {
		t.Errorf("%s: %v names a place", what, got)
	}
}

// wantFault looks that an error is that one at that place, which may be 0.
func wantFault(t *testing.T, what string, got error, want api.Errno, place int) {
	t.Helper()
	var f *api.Fault
	if !errors.As(got, &f) || f == nil {
		t.Errorf("%s: %v is no Fault", what, got)
		return
	}
	if f.At != place || f.Err != want || api.Place(got) != place || !errors.Is(got, want) {
		t.Errorf("%s: %v, want %v at %d", what, got, want, place)
	}
}

func open(t *testing.T, kinds ...int) *model.State {
	t.Helper()
	s, err := model.New(kinds...)
	if s == nil || err != nil {
		t.Fatalf("New(%v) = %v, %v", kinds, s, err)
	}
	return s
}

func put(t *testing.T, s *model.State, coll int, all ...api.Pair) {
	t.Helper()
	for _, x := range all {
		if err := s.Put(coll, x.Key, x.Value); err != nil {
			t.Fatalf("Put(%d, %d, %d): %v", coll, x.Key, x.Value, err)
		}
	}
}

func del(t *testing.T, s *model.State, coll int, keys ...int) {
	t.Helper()
	for _, key := range keys {
		if err := s.Del(coll, key); err != nil {
			t.Fatalf("Del(%d, %d): %v", coll, key, err)
		}
	}
}

// wantAll looks that a collection has just these keys, with their values; they rise.
func wantAll(t *testing.T, s *model.State, coll int, want ...api.Pair) {
	t.Helper()
	if all, err := s.List(coll); !slices.Equal(all, want) || err != nil {
		t.Errorf("List(%d) = %v, %v, want %v", coll, all, err, want)
	}
	if n, err := s.Size(coll); n != len(want) || err != nil {
		t.Errorf("Size(%d) = %d, %v, want %d", coll, n, err, len(want))
	}
	for _, x := range want {
		if v, ok, err := s.Get(coll, x.Key); v != x.Value || !ok || err != nil {
			t.Errorf("Get(%d, %d) = %d, %v, %v, want %d, true", coll, x.Key, v, ok, err, x.Value)
		}
	}
}

func wantAbsent(t *testing.T, s *model.State, coll int, keys ...int) {
	t.Helper()
	for _, key := range keys {
		if v, ok, err := s.Get(coll, key); v != 0 || ok || err != nil {
			t.Errorf("Get(%d, %d) = %d, %v, %v, want 0, false", coll, key, v, ok, err)
		}
	}
}

func wantCeil(t *testing.T, s *model.State, coll, key, want int) {
	t.Helper()
	if k, ok, err := s.Ceil(coll, key); k != want || !ok || err != nil {
		t.Errorf("Ceil(%d, %d) = %d, %v, %v, want %d, true", coll, key, k, ok, err, want)
	}
}

func wantNoCeil(t *testing.T, s *model.State, coll, key int) {
	t.Helper()
	if k, ok, err := s.Ceil(coll, key); k != 0 || ok || err != nil {
		t.Errorf("Ceil(%d, %d) = %d, %v, %v, want 0, false", coll, key, k, ok, err)
	}
}

func wantRange(t *testing.T, s *model.State, coll, from, to, want int) {
	t.Helper()
	if n, err := s.Range(coll, from, to); n != want || err != nil {
		t.Errorf("Range(%d, %d, %d) = %d, %v, want %d", coll, from, to, n, err, want)
	}
}

func wantSame(t *testing.T, s, o *model.State, want bool) {
	t.Helper()
	if s.Same(o) != want || o.Same(s) != want {
		t.Errorf("Same is %v, and the other way round %v, want %v", s.Same(o), o.Same(s), want)
	}
}

// calls does all calls of a collection that answer an error, and has each one's looked at.
func calls(t *testing.T, s *model.State, coll, key int, look func(what string, err error)) {
	t.Helper()
	v, ok, err := s.Get(coll, key)
	if look("Get", err); v != 0 || ok {
		t.Errorf("Get = %d, %v, want 0, false", v, ok)
	}
	look("Put", s.Put(coll, key, 1))
	look("Del", s.Del(coll, key))
	n, err := s.Size(coll)
	if look("Size", err); n != 0 {
		t.Errorf("Size = %d, want 0", n)
	}
	all, err := s.List(coll)
	if look("List", err); len(all) != 0 {
		t.Errorf("List = %v, want none", all)
	}
	inOrder(t, s, coll, key, look)
}

// inOrder does those that ordered collections alone answer.
func inOrder(t *testing.T, s *model.State, coll, key int, look func(what string, err error)) {
	t.Helper()
	k, ok, err := s.Ceil(coll, key)
	if look("Ceil", err); k != 0 || ok {
		t.Errorf("Ceil = %d, %v, want 0, false", k, ok)
	}
	n, err := s.Range(coll, math.MinInt, math.MaxInt)
	if look("Range", err); n != 0 {
		t.Errorf("Range = %d, want 0", n)
	}
}

// eight are as many kinds as there may be.
func eight() []int {
	return []int{api.CollOrdered, api.CollSet, api.CollMap, api.CollMap, api.CollSet, api.CollOrdered, api.CollSet, api.CollMap}
}

// The chapter's example.
func TestExample(t *testing.T) {
	s := open(t, api.CollMap, api.CollOrdered)
	put(t, s, 1, pair(5, 7))
	wantCeil(t, s, 1, 3, 5)
	wantRange(t, s, 1, 0, 9, 1)
	_, _, err := s.Ceil(0, 3)
	wantErr(t, "Ceil", err, api.ErrKind)
}

// P8.1: a state has the collections that it was asked for, without keys.
func TestNew(t *testing.T) {
	for n := range api.MaxColls + 1 {
		kinds := eight()[:n]
		s := open(t, kinds...)
		if got := s.Kinds(); !slices.Equal(got, kinds) {
			t.Errorf("Kinds = %v, want %v", got, kinds)
		}
		for coll, kind := range kinds {
			wantAll(t, s, coll)
			wantAbsent(t, s, coll, 0, 1, -1, math.MinInt, math.MaxInt)
			if kind == api.CollOrdered {
				wantNoCeil(t, s, coll, math.MinInt)
				wantRange(t, s, coll, math.MinInt, math.MaxInt, 0)
			}
		}
		_, err := s.Size(n)
		wantFault(t, "Size", err, api.ErrRange, n)
	}
}

// P8.1: the place of the first kind that is none, from 1 on.
func TestNewOfNoKind(t *testing.T) {
	for _, none := range []int{0, -1, 4, math.MinInt, math.MaxInt} {
		for place := 1; place <= api.MaxColls; place++ {
			kinds := eight()
			kinds[place-1] = none
			s, err := model.New(kinds...)
			if s != nil {
				t.Errorf("New(%v) makes one", kinds)
			}
			wantFault(t, "New", err, api.ErrKind, place)
			if place < api.MaxColls {
				kinds[api.MaxColls-1] = 0
			}
			_, err = model.New(kinds...)
			wantFault(t, "New", err, api.ErrKind, place)
			_, err = model.New(kinds[:place]...)
			wantFault(t, "New", err, api.ErrKind, place)
		}
	}
}

// P8.1, rule 1: that a kind is none is told ahead of that there are too many.
func TestNewOfMany(t *testing.T) {
	for _, more := range []int{1, 2, 300} {
		kinds := append(eight(), slices.Repeat([]int{api.CollMap}, more)...)
		s, err := model.New(kinds...)
		if s != nil {
			t.Errorf("New of %d makes one", len(kinds))
		}
		wantErr(t, "New", err, api.ErrMany)
		kinds[len(kinds)-1] = 4
		s, err = model.New(kinds...)
		if s != nil {
			t.Errorf("New of %d makes one", len(kinds))
		}
		wantFault(t, "New", err, api.ErrKind, len(kinds))
	}
}

// P8.2: of each kind, what was put is told till it is taken away.
func TestCalls(t *testing.T) {
	for coll, kind := range []int{api.CollMap, api.CollOrdered} {
		s := open(t, api.CollMap, api.CollOrdered)
		put(t, s, coll, pair(5, 7), pair(-2, 0), pair(3, -9))
		wantAll(t, s, coll, pair(-2, 0), pair(3, -9), pair(5, 7))
		wantAbsent(t, s, coll, 4, 2, 0, 7)
		put(t, s, coll, pair(5, 8), pair(5, 7), pair(3, 3))
		wantAll(t, s, coll, pair(-2, 0), pair(3, 3), pair(5, 7))
		del(t, s, coll, 3, 3, 100)
		wantAll(t, s, coll, pair(-2, 0), pair(5, 7))
		wantAbsent(t, s, coll, 3)
		put(t, s, coll, pair(3, 1))
		wantAll(t, s, coll, pair(-2, 0), pair(3, 1), pair(5, 7))
		del(t, s, coll, -2, 5, 3)
		wantAll(t, s, coll)
		if got := s.Kinds()[coll]; got != kind {
			t.Errorf("the kind %d is %d then", kind, got)
		}
	}
}

// P8.2, Words: values of a set are 1, whatever is put.
func TestSet(t *testing.T) {
	s := open(t, api.CollSet)
	put(t, s, 0, pair(5, 7), pair(2, 0), pair(9, 1), pair(4, math.MinInt))
	wantAll(t, s, 0, pair(2, 1), pair(4, 1), pair(5, 1), pair(9, 1))
	put(t, s, 0, pair(5, 2), pair(2, -1))
	wantAll(t, s, 0, pair(2, 1), pair(4, 1), pair(5, 1), pair(9, 1))
	del(t, s, 0, 5, 9, 1)
	wantAll(t, s, 0, pair(2, 1), pair(4, 1))
	wantAbsent(t, s, 0, 5, 9)
}

// P8.2: keys and values may be any numbers.
func TestAnyNumbers(t *testing.T) {
	s := open(t, api.CollMap, api.CollOrdered)
	for coll := range 2 {
		put(t, s, coll, pair(math.MaxInt, math.MinInt), pair(math.MinInt, math.MaxInt), pair(0, 0))
		wantAll(t, s, coll, pair(math.MinInt, math.MaxInt), pair(0, 0), pair(math.MaxInt, math.MinInt))
		wantAbsent(t, s, coll, math.MinInt+1, math.MaxInt-1, 1, -1)
	}
	wantCeil(t, s, 1, math.MinInt, math.MinInt)
	wantCeil(t, s, 1, math.MinInt+1, 0)
	wantCeil(t, s, 1, 1, math.MaxInt)
	wantCeil(t, s, 1, math.MaxInt, math.MaxInt)
	wantRange(t, s, 1, math.MinInt, math.MaxInt, 3)
	wantRange(t, s, 1, math.MinInt, math.MaxInt-1, 2)
	wantRange(t, s, 1, math.MinInt+1, math.MaxInt, 2)
	wantRange(t, s, 1, math.MaxInt, math.MinInt, 0)
	del(t, s, 1, math.MaxInt)
	wantNoCeil(t, s, 1, 1)
	wantNoCeil(t, s, 1, math.MaxInt)
}

// P8.2: as many keys as may be, and no more; those that are there may have other values.
func TestPutOfMany(t *testing.T) {
	for coll := range 3 {
		s := open(t, api.CollMap, api.CollSet, api.CollOrdered)
		var want []api.Pair
		for key := range api.MaxKeys {
			want = append(want, pair(2*key, 1))
			put(t, s, coll, want[key])
		}
		for _, key := range []int{-1, 1, 2*api.MaxKeys - 1, 2 * api.MaxKeys, math.MinInt, math.MaxInt} {
			wantErr(t, "Put", s.Put(coll, key, 1), api.ErrMany)
			wantAbsent(t, s, coll, key)
		}
		wantAll(t, s, coll, want...)
		put(t, s, coll, want...)
		if coll != 1 {
			want[7].Value = 9
		}
		put(t, s, coll, pair(14, 9))
		wantAll(t, s, coll, want...)
		for other := range 3 {
			if other != coll {
				put(t, s, other, pair(1, 1))
				wantAll(t, s, other, pair(1, 1))
			}
		}
		del(t, s, coll, 14)
		put(t, s, coll, pair(15, 1))
		wantErr(t, "Put", s.Put(coll, 14, 1), api.ErrMany)
		want[7] = pair(15, 1)
		wantAll(t, s, coll, want...)
	}
}

// P8.2: the least key that is not below one.
func TestCeil(t *testing.T) {
	s := open(t, api.CollOrdered)
	wantNoCeil(t, s, 0, 0)
	put(t, s, 0, pair(7, 1), pair(-3, 2), pair(0, 3))
	for key, want := range map[int]int{-100: -3, -4: -3, -3: -3, -2: 0, -1: 0, 0: 0, 1: 7, 6: 7, 7: 7} {
		wantCeil(t, s, 0, key, want)
	}
	wantNoCeil(t, s, 0, 8)
	del(t, s, 0, 0)
	wantCeil(t, s, 0, -2, 7)
}

// P8.2: how many keys there are between two, with both.
func TestRange(t *testing.T) {
	s := open(t, api.CollOrdered)
	wantRange(t, s, 0, -10, 10, 0)
	put(t, s, 0, pair(1, 9), pair(3, 9), pair(4, 9), pair(8, 9))
	for _, x := range []struct{ from, to, want int }{
		{1, 8, 4}, {2, 8, 3}, {1, 7, 3}, {2, 7, 2}, {0, 9, 4}, {3, 3, 1}, {2, 2, 0}, {3, 4, 2}, {5, 7, 0},
		{8, 8, 1}, {9, 20, 0}, {-5, 0, 0}, {4, 3, 0}, {8, 1, 0}, {9, 0, 0},
	} {
		wantRange(t, s, 0, x.from, x.to, x.want)
	}
}

// P8.2, P2: there is no such collection, which every call tells, and does nothing.
func TestNoSuchCollection(t *testing.T) {
	for n := range api.MaxColls + 1 {
		s := open(t, eight()[:n]...)
		was := s.Copy()
		for _, coll := range []int{-1, -2, n, n + 1, api.MaxColls, math.MinInt, math.MaxInt} {
			calls(t, s, coll, 0, func(what string, err error) {
				t.Helper()
				wantFault(t, what, err, api.ErrRange, coll)
			})
		}
		wantSame(t, s, was, true)
	}
}

// P8.2: just ordered collections tell what is asked for in order, with keys and without.
func TestNotOrdered(t *testing.T) {
	s := open(t, eight()...)
	for range 2 {
		for coll, kind := range eight() {
			if kind != api.CollOrdered {
				inOrder(t, s, coll, 0, func(what string, err error) {
					t.Helper()
					wantErr(t, what, err, api.ErrKind)
				})
			}
			put(t, s, coll, pair(0, 1))
		}
	}
}

// P8.2, P2: Put that is refused changes nothing, whatever the kind.
func TestRefusedPut(t *testing.T) {
	s := open(t, api.CollMap, api.CollSet, api.CollOrdered)
	for coll := range 3 {
		for key := range api.MaxKeys {
			put(t, s, coll, pair(key, key))
		}
	}
	was := s.Copy()
	for coll := range 3 {
		wantErr(t, "Put", s.Put(coll, api.MaxKeys, 5), api.ErrMany)
		wantErr(t, "Put", s.Put(coll, -1, 5), api.ErrMany)
	}
	wantSame(t, s, was, true)
}

// P8.3: what is done with a copy is not done with what it is of, and the other way round.
func TestCopy(t *testing.T) {
	s := open(t, api.CollMap, api.CollSet, api.CollOrdered)
	for coll := range 3 {
		put(t, s, coll, pair(1, 1), pair(2, 1))
	}
	o := s.Copy()
	wantSame(t, s, o, true)
	for coll := range 3 {
		wantAll(t, o, coll, pair(1, 1), pair(2, 1))
		put(t, s, coll, pair(3, 1))
		del(t, s, coll, 1)
		wantAll(t, o, coll, pair(1, 1), pair(2, 1))
		put(t, o, coll, pair(4, 1))
		del(t, o, coll, 2)
		wantAll(t, s, coll, pair(2, 1), pair(3, 1))
		wantAll(t, o, coll, pair(1, 1), pair(4, 1))
	}
	wantSame(t, s, o, false)
	wantCeil(t, o, 2, 2, 4)
	_, _, err := o.Ceil(1, 2)
	wantErr(t, "Ceil", err, api.ErrKind)
	if got := o.Kinds(); !slices.Equal(got, []int{api.CollMap, api.CollSet, api.CollOrdered}) {
		t.Errorf("Kinds of a copy = %v", got)
	}
	put(t, o, 0, pair(1, 9))
	put(t, o.Copy(), 0, pair(1, 8))
	wantAll(t, o, 0, pair(1, 9), pair(4, 1))
	none := open(t).Copy()
	if none == nil {
		t.Fatal("no copy of a state without collections")
	}
	wantSame(t, none, open(t), true)
}

// P8.3: two have the same if kinds, keys and values are, however they came to be.
func TestSame(t *testing.T) {
	kinds := []int{api.CollMap, api.CollOrdered}
	s, o := open(t, kinds...), open(t, kinds...)
	wantSame(t, s, s, true)
	wantSame(t, s, o, true)
	put(t, s, 0, pair(1, 5), pair(2, 6))
	wantSame(t, s, o, false)
	put(t, o, 0, pair(2, 6))
	wantSame(t, s, o, false)
	put(t, o, 0, pair(3, 3), pair(1, 4))
	del(t, o, 0, 3)
	wantSame(t, s, o, false)
	put(t, o, 0, pair(1, 5))
	wantSame(t, s, o, true)
	put(t, s, 1, pair(0, 0))
	wantSame(t, s, o, false)
	put(t, o, 1, pair(1, 0))
	wantSame(t, s, o, false)
	put(t, o, 1, pair(0, 0))
	del(t, o, 1, 1)
	wantSame(t, s, o, true)
	wantSame(t, s, s, true)
}

// P8.3: the same keys in other collections, or in those of other kinds, are not the same.
func TestOtherKinds(t *testing.T) {
	var all []*model.State
	for _, kinds := range [][]int{{}, {1}, {2}, {3}, {1, 1}, {1, 2}, {2, 1}, {3, 1}, {1, 1, 1}} {
		s := open(t, kinds...)
		all = append(all, s)
		if len(kinds) > 0 {
			full := s.Copy()
			put(t, full, len(kinds)-1, pair(1, 1))
			all = append(all, full)
		}
	}
	first := open(t, 1, 1)
	put(t, first, 0, pair(1, 1))
	all = append(all, first, nil)
	for i, s := range all {
		for j, o := range all {
			if s.Same(o) != (i == j) {
				t.Errorf("the states %d and %d: Same is %v", i, j, s.Same(o))
			}
		}
	}
}

// P8.4: what is done with one key, or one collection, changes no other one.
func TestOthersStay(t *testing.T) {
	s := open(t, api.CollMap, api.CollSet, api.CollOrdered, api.CollMap)
	for coll := range 4 {
		put(t, s, coll, pair(1, 1), pair(2, 1))
	}
	put(t, s, 0, pair(1, 6))
	del(t, s, 1, 1)
	put(t, s, 2, pair(9, 9))
	wantAll(t, s, 0, pair(1, 6), pair(2, 1))
	wantAll(t, s, 1, pair(2, 1))
	wantAll(t, s, 2, pair(1, 1), pair(2, 1), pair(9, 9))
	wantAll(t, s, 3, pair(1, 1), pair(2, 1))
	o := open(t, api.CollMap)
	put(t, o, 0, pair(1, 100))
	wantAll(t, s, 0, pair(1, 6), pair(2, 1))
}

// Rule 3: what is handed in is not changed, nor kept; what is handed out is the caller's own.
func TestHandedInAndOut(t *testing.T) {
	kinds := append(make([]int, 0, 9), api.CollMap, api.CollOrdered)
	s := open(t, kinds...)
	put(t, s, 0, pair(1, 1), pair(2, 2))
	if !slices.Equal(kinds, []int{api.CollMap, api.CollOrdered}) {
		t.Errorf("what was handed in is %v then", kinds)
	}
	kinds[1] = api.CollSet
	s.Kinds()[0] = api.CollSet
	if got := s.Kinds(); !slices.Equal(got, []int{api.CollMap, api.CollOrdered}) {
		t.Errorf("Kinds = %v", got)
	}
	o := s.Copy()
	o.Kinds()[0] = api.CollSet
	all, _ := s.List(0)
	all[0] = pair(9, 9)
	all = append(all[:1], pair(8, 8))
	wantAll(t, s, 0, pair(1, 1), pair(2, 2))
	put(t, s, 0, pair(2, 5))
	if want := []api.Pair{pair(9, 9), pair(8, 8)}; !slices.Equal(all, want) {
		t.Errorf("what List told is %v then, want %v", all, want)
	}
	wantAll(t, o, 0, pair(1, 1), pair(2, 2))
	if k, ok, err := s.Ceil(1, 0); k != 0 || ok || err != nil {
		t.Errorf("Ceil = %d, %v, %v", k, ok, err)
	}
}

// Rule 4: of a state that no call made.
func TestNil(t *testing.T) {
	for _, s := range []*model.State{nil, {}} {
		for _, coll := range []int{0, 1, -1, math.MinInt, math.MaxInt} {
			calls(t, s, coll, 1, func(what string, err error) {
				t.Helper()
				wantErr(t, what, err, api.ErrNil)
			})
		}
		if got := s.Kinds(); len(got) != 0 {
			t.Errorf("Kinds = %v, want none", got)
		}
		if o := s.Copy(); o != nil {
			t.Errorf("Copy = %v, want none", o)
		}
		wantSame(t, s, nil, true)
		wantSame(t, s, open(t), false)
		wantSame(t, s, open(t, api.CollMap), false)
	}
}
