package prog_test

import (
	"math"
	"reflect"
	"slices"
	"testing"

	"concord/api"
	"concord/prog"
)

// placed is a statement, and how deep it lies.
type placed struct {
	s    api.Stmt
	deep int
}

// flat are all statements in order, written down in the plainest way.
func flat(p []api.Stmt, deep int) []placed {
	var all []placed
	for _, s := range p {
		all = append(all, placed{s, deep})
		all = append(all, flat(s.Body, deep+1)...)
		all = append(all, flat(s.Else, deep+1)...)
	}
	return all
}

func depths(p []api.Stmt) []int {
	var all []int
	for _, x := range flat(p, 1) {
		all = append(all, x.deep)
	}
	return all
}

// mayBe tells whether a statement is right, sentence by sentence as the chapter has it.
func mayBe(s api.Stmt, kinds []int) bool {
	is := func(kinds ...int) bool { return slices.Contains(kinds, s.Kind) }
	bounded := func(a api.Arg) bool { return a.Reg >= 0 && a.Reg <= 8 && a.N >= -999 && a.N <= 999 }
	zero := func(a api.Arg) bool { return a.Reg == 0 && a.N == 0 }
	if s.Kind < 1 || s.Kind > 16 {
		return false
	}
	if s.Kind <= api.StList {
		if s.Coll < 0 || s.Coll >= len(kinds) || is(api.StCeil, api.StRange) && kinds[s.Coll] != api.CollOrdered {
			return false
		}
	} else if s.Coll != 0 {
		return false
	}
	if is(api.StGet, api.StHas, api.StSize, api.StCeil, api.StRange, api.StSet, api.StAdd) {
		if s.Reg < 1 || s.Reg > 8 {
			return false
		}
	} else if s.Reg != 0 {
		return false
	}
	switch {
	case is(api.StLoop):
		if s.A.Reg != 0 || s.A.N < 0 || s.A.N > 5 {
			return false
		}
	case is(api.StGet, api.StPut, api.StDel, api.StHas, api.StCeil, api.StRange, api.StSet, api.StAdd, api.StIf):
		if !bounded(s.A) {
			return false
		}
	case !zero(s.A):
		return false
	}
	if is(api.StPut, api.StRange, api.StAdd, api.StIf) && !bounded(s.B) || !is(api.StPut, api.StRange, api.StAdd, api.StIf) && !zero(s.B) {
		return false
	}
	if !is(api.StIf, api.StLoop, api.StAtomic, api.StOr) && len(s.Body) > 0 {
		return false
	}
	return is(api.StIf, api.StOr) || len(s.Else) == 0
}

// wrong is what is wrong first with a transaction, and where; 0: nothing.
func wrong(p []api.Stmt, kinds []int) (api.Errno, int) {
	for i, x := range flat(p, 1) {
		switch {
		case i == 100:
			return api.ErrMany, 101
		case x.deep > 8:
			return api.ErrDeep, i + 1
		case !mayBe(x.s, kinds):
			return api.ErrForm, i + 1
		}
	}
	return 0, 0
}

// look holds all that is answered of a transaction against what is written down.
func look(t *testing.T, p []api.Stmt, kinds []int) {
	t.Helper()
	all := flat(p, 1)
	err := prog.Right(p, kinds...)
	if want, place := wrong(p, kinds); want != 0 {
		wantFault(t, "Right", err, want, place)
	} else if err != nil {
		t.Errorf("Right(%v) = %v, want nil", p, err)
	}
	var colls []int
	deep, waits := 0, false
	for _, x := range all {
		if x.s.Kind >= api.StGet && x.s.Kind <= api.StList && !slices.Contains(colls, x.s.Coll) {
			colls = append(colls, x.s.Coll)
		}
		deep = max(deep, x.deep)
		waits = waits || x.s.Kind == api.StRetry
	}
	slices.Sort(colls)
	wantSize(t, p, len(all), deep)
	wantColls(t, p, colls...)
	wantWaits(t, p, waits)
	i := 0
	prog.Walk(p, func(n int, s api.Stmt) bool {
		if i++; n != i || i > len(all) || !reflect.DeepEqual(s, all[i-1].s) {
			t.Errorf("the call %d is with %d and %v", i, n, s)
		}
		return true
	})
	if i != len(all) {
		t.Errorf("%d visits, want %d", i, len(all))
	}
}

// draws are numbers below a bound that look random, and are the same each time.
func draws(seed uint64) func(below int) int {
	return func(below int) int {
		seed = seed*6364136223846793005 + 1442695040888963407
		return int(seed >> 33 % uint64(below))
	}
}

// drawn draws statements, of at most that many, at most that deep; odd: one in so many has something that is drawn from anything.
func drawn(draw func(int) int, most, deep, odd int) []api.Stmt {
	var p []api.Stmt
	for most > 0 && draw(20) > 0 {
		all := forms()
		f := all[draw(len(all))]
		if deep > 1 && draw(2) == 0 {
			f = all[10+draw(4)]
		}
		s := full(f)
		s.Body, s.Else = nil, nil
		most--
		if deep > 1 && f.body {
			s.Body = drawn(draw, draw(max(most, 0)+1), deep-1, odd)
			most -= prog.Size(s.Body)
		}
		if deep > 1 && f.other {
			s.Else = drawn(draw, draw(max(most, 0)+1), deep-1, odd)
			most -= prog.Size(s.Else)
		}
		if draw(odd) == 0 {
			spoil(draw, &s)
		}
		p = append(p, s)
	}
	return p
}

// spoil puts something into a statement that may, or may not be.
func spoil(draw func(int) int, s *api.Stmt) {
	edges := []int{0, 1, 2, 3, 5, 6, 7, 8, 9, 10, 11, 12, 13, 14, 15, 16, 17, 999, 1000, -1, -2, -999, -1000, math.MaxInt, math.MinInt}
	x := edges[draw(len(edges))]
	switch draw(9) {
	case 0:
		s.Kind = x
	case 1:
		s.Coll = x
	case 2:
		s.Reg = x
	case 3:
		s.A.Reg = x
	case 4:
		s.A.N = x
	case 5:
		s.B.Reg = x
	case 6:
		s.B.N = x
	case 7:
		s.Body = list(retry())
	case 8:
		s.Else = list(abort())
	}
}

// P9.1 to P9.4: transactions that are drawn, some of them right, some great, or deep, or with much that may not be.
func TestDrawn(t *testing.T) {
	draw := draws(9)
	of := map[api.Errno]int{}
	for i := range 10000 {
		all := kinds()
		if i%2 == 0 {
			all = slices.Repeat(kinds(), 3)[draw(3):][:draw(4)]
		}
		p := drawn(draw, 1+draw(130), 1+draw(12), []int{4, 60, 100000}[i%3])
		look(t, p, all)
		if t.Failed() {
			return
		}
		what, _ := wrong(p, all)
		of[what]++
	}
	for _, what := range []api.Errno{0, api.ErrMany, api.ErrDeep, api.ErrForm} {
		if of[what] < 50 {
			t.Errorf("%d of the transactions have the error %d, too few to tell by", of[what], what)
		}
	}
}

// P9.2 to P9.4: all ways in which six statements may lie in one another.
func TestAllShapes(t *testing.T) {
	for n := range 7 {
		for _, p := range shapes(n) {
			look(t, p, kinds())
		}
	}
}

// shapes are all lists of so many statements, each of which has one kind alone, by whether it has a Body, and an Else.
func shapes(n int) [][]api.Stmt {
	if n == 0 {
		return [][]api.Stmt{nil}
	}
	var all [][]api.Stmt
	for inBody := range n {
		for inElse := range n - inBody {
			for _, body := range shapes(inBody) {
				for _, other := range shapes(inElse) {
					for _, rest := range shapes(n - 1 - inBody - inElse) {
						all = append(all, append(list(shaped(body, other)), rest...))
					}
				}
			}
		}
	}
	return all
}

func shaped(body, other []api.Stmt) api.Stmt {
	if len(body)+len(other) == 0 {
		return api.Stmt{Kind: api.StPut, Coll: 1}
	}
	return either(body, other)
}

// P9.5: a transaction is right just if what is cut from its end is, and what is left is; Size and Deep of both tell its own.
func TestParts(t *testing.T) {
	draw := draws(5)
	for range 3000 {
		p, q := drawn(draw, 1+draw(50), 1+draw(9), 60), drawn(draw, 1+draw(50), 1+draw(9), 60)
		wantParts(t, p, q)
		for i := range p {
			wantParts(t, p[:i], p[i:])
		}
	}
}

func wantParts(t *testing.T, p, q []api.Stmt) {
	t.Helper()
	both := slices.Concat(p, q)
	if got, want := prog.Size(both), prog.Size(p)+prog.Size(q); got != want {
		t.Errorf("Size = %d, want %d", got, want)
	}
	if got, want := prog.Deep(both), max(prog.Deep(p), prog.Deep(q)); got != want {
		t.Errorf("Deep = %d, want %d", got, want)
	}
	fits := prog.Size(both) <= api.MaxStmts
	of := fits && prog.Right(p, kinds()...) == nil && prog.Right(q, kinds()...) == nil
	if got := prog.Right(both, kinds()...) == nil; got != of {
		t.Errorf("%v and %v behind it are right: %v, want %v", p, q, got, of)
	}
}
