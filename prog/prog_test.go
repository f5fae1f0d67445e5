package prog_test

import (
	"errors"
	"math"
	"reflect"
	"slices"
	"testing"

	"concord/api"
	"concord/prog"
)

// wantFault looks that an error is that one, and no other one, at that place.
func wantFault(t *testing.T, what string, got error, want api.Errno, place int) {
	t.Helper()
	var f *api.Fault
	if !errors.As(got, &f) || f == nil {
		t.Errorf("%s: %v, want %v at %d", what, got, want, place)
		return
	}
	if f.At != place || f.Err != want || api.Place(got) != place || !errors.Is(got, want) {
		t.Errorf("%s: %v, want %v at %d", what, got, want, place)
	}
}

// wantRight looks that a transaction is right, with the collections of kinds.
func wantRight(t *testing.T, p []api.Stmt) {
	t.Helper()
	if err := prog.Right(p, kinds()...); err != nil {
		t.Errorf("Right(%v) = %v, want nil", p, err)
	}
}

// wantWrong looks what is wrong with a transaction first.
func wantWrong(t *testing.T, p []api.Stmt, want api.Errno, place int) {
	t.Helper()
	wantFault(t, "Right", prog.Right(p, kinds()...), want, place)
}

// kinds are a collection of each kind; the last one is ordered.
func kinds() []int { return []int{api.CollMap, api.CollSet, api.CollOrdered} }

const ordered = 2

// form is what the statements of a kind take, as the chapter names it.
type form struct {
	kind                            int
	coll, ordered, reg, a, b, times bool
	body, other                     bool
}

// forms are those of all kinds.
func forms() []form {
	return []form{
		{kind: api.StGet, coll: true, reg: true, a: true},
		{kind: api.StPut, coll: true, a: true, b: true},
		{kind: api.StDel, coll: true, a: true},
		{kind: api.StHas, coll: true, reg: true, a: true},
		{kind: api.StSize, coll: true, reg: true},
		{kind: api.StCeil, coll: true, ordered: true, reg: true, a: true},
		{kind: api.StRange, coll: true, ordered: true, reg: true, a: true, b: true},
		{kind: api.StList, coll: true},
		{kind: api.StSet, reg: true, a: true},
		{kind: api.StAdd, reg: true, a: true, b: true},
		{kind: api.StIf, a: true, b: true, body: true, other: true},
		{kind: api.StLoop, times: true, body: true},
		{kind: api.StAtomic, body: true},
		{kind: api.StOr, body: true, other: true},
		{kind: api.StRetry},
		{kind: api.StAbort},
	}
}

// full is a right statement of a kind, with something in all that it takes.
func full(f form) api.Stmt {
	s := api.Stmt{Kind: f.kind}
	if f.coll {
		s.Coll = ordered
	}
	if f.reg {
		s.Reg = 3
	}
	if f.a {
		s.A = api.Arg{Reg: 2, N: -5}
	}
	if f.b {
		s.B = api.Arg{Reg: 1, N: 7}
	}
	if f.times {
		s.A = api.Arg{N: 2}
	}
	if f.body {
		s.Body = []api.Stmt{retry()}
	}
	if f.other {
		s.Else = []api.Stmt{abort()}
	}
	return s
}

func retry() api.Stmt { return api.Stmt{Kind: api.StRetry} }

func abort() api.Stmt { return api.Stmt{Kind: api.StAbort} }

// none is a statement that is not right.
func none() api.Stmt { return api.Stmt{} }

func atomic(body ...api.Stmt) api.Stmt { return api.Stmt{Kind: api.StAtomic, Body: body} }

func either(body, other []api.Stmt) api.Stmt {
	return api.Stmt{Kind: api.StOr, Body: body, Else: other}
}

func list(p ...api.Stmt) []api.Stmt { return p }

func get(coll int) api.Stmt { return api.Stmt{Kind: api.StGet, Coll: coll, Reg: 1} }

func many(n int, s api.Stmt) []api.Stmt { return slices.Repeat(list(s), n) }

// nest is a statement that lies that deep, in Bodies or in Elses.
func nest(deep int, inElse bool, s api.Stmt) api.Stmt {
	for ; deep > 1; deep-- {
		if inElse {
			s = either(nil, list(s))
		} else {
			s = atomic(s)
		}
	}
	return s
}

// The chapter's example.
func TestExample(t *testing.T) {
	if err := prog.Right(list(retry())); err != nil {
		t.Errorf("Right = %v, want nil", err)
	}
	wantFault(t, "Right", prog.Right(list(get(0))), api.ErrForm, 1)
}

// P9.1: a transaction without statements is right, with any collections.
func TestEmpty(t *testing.T) {
	for _, p := range [][]api.Stmt{nil, {}} {
		if err := prog.Right(p); err != nil {
			t.Errorf("Right(%v) = %v, want nil", p, err)
		}
		wantRight(t, p)
	}
}

// P9.1: statements of each kind, with all that it takes, and with as little of it as may be.
func TestKinds(t *testing.T) {
	for _, f := range forms() {
		s := full(f)
		wantRight(t, list(s))
		s.A, s.B, s.Body, s.Else = api.Arg{}, api.Arg{}, nil, nil
		wantRight(t, list(s))
		s.Body, s.Else = []api.Stmt{}, []api.Stmt{}
		wantRight(t, list(s))
	}
	for _, kind := range []int{0, -1, -16, 17, 18, 100, 257, math.MinInt, math.MaxInt} {
		wantWrong(t, list(api.Stmt{Kind: kind}), api.ErrForm, 1)
		wantWrong(t, list(retry(), api.Stmt{Kind: kind, Reg: 1}), api.ErrForm, 2)
	}
}

// P9.1: Coll is the place of a collection, where a kind takes one, else 0.
func TestColl(t *testing.T) {
	for _, f := range forms() {
		for _, coll := range []int{0, 1, 2, 3, 8, -1, math.MinInt, math.MaxInt} {
			s := full(f)
			s.Coll = coll
			may := coll == 0
			if f.coll {
				may = coll >= 0 && coll < 3 && (!f.ordered || coll == ordered)
			}
			wantForm(t, s, may)
		}
	}
}

// P9.1: there are as many collections as kinds, and of which kind each is, its place tells.
func TestKindsOfCollections(t *testing.T) {
	all := []int{api.CollOrdered, api.CollMap, api.CollOrdered, api.CollSet, api.CollSet, api.CollOrdered, api.CollMap, api.CollOrdered, api.CollOrdered}
	for n := range len(all) + 1 {
		for coll := range len(all) + 1 {
			for _, f := range forms() {
				if !f.coll {
					continue
				}
				s := full(f)
				s.Coll = coll
				err := prog.Right(list(s), all[:n]...)
				if coll < n && (!f.ordered || all[coll] == api.CollOrdered) {
					if err != nil {
						t.Errorf("Right(%v) of %d = %v, want nil", s, n, err)
					}
				} else {
					wantFault(t, "Right", err, api.ErrForm, 1)
				}
			}
		}
	}
}

// P9.1: Reg is from 1 to Regs, where a kind takes one, else 0.
func TestReg(t *testing.T) {
	for _, f := range forms() {
		for _, reg := range []int{0, 1, 2, 7, 8, 9, -1, math.MinInt, math.MaxInt} {
			s := full(f)
			s.Reg = reg
			may := reg == 0
			if f.reg {
				may = reg >= 1 && reg <= 8
			}
			wantForm(t, s, may)
		}
	}
}

// P9.1: A and B are within their bounds, where a kind takes them, else zero; a loop's A is how often.
func TestArgs(t *testing.T) {
	for _, f := range forms() {
		for _, reg := range []int{0, 1, 8, 9, -1, math.MinInt, math.MaxInt} {
			for _, n := range []int{0, 1, 5, 6, 998, 999, 1000, -1, -999, -1000, math.MinInt, math.MaxInt} {
				x := api.Arg{Reg: reg, N: n}
				within := reg >= 0 && reg <= 8 && n >= -999 && n <= 999
				zero := reg == 0 && n == 0
				s := full(f)
				s.A = x
				wantForm(t, s, f.a && within || f.times && reg == 0 && n >= 0 && n <= 5 || zero)
				s = full(f)
				s.B = x
				wantForm(t, s, f.b && within || zero)
			}
		}
	}
}

// P9.1: Body and Else are empty, where a kind takes none.
func TestBodyAndElse(t *testing.T) {
	for _, f := range forms() {
		for _, p := range [][]api.Stmt{nil, {}, {retry()}, {retry(), abort()}} {
			s := full(f)
			s.Body = p
			wantForm(t, s, f.body || len(p) == 0)
			s = full(f)
			s.Else = p
			wantForm(t, s, f.other || len(p) == 0)
		}
	}
}

// wantForm looks whether a statement is right, wherever it stands; the last one of those around it is not.
func wantForm(t *testing.T, s api.Stmt, may bool) {
	t.Helper()
	for _, x := range []struct {
		place int
		p     []api.Stmt
	}{
		{1, list(s, none())},
		{3, list(retry(), abort(), s, none())},
		{2, list(atomic(s), none())},
		{4, list(either(list(retry()), list(atomic(), s)), none())},
	} {
		if may {
			wantWrong(t, x.p, api.ErrForm, prog.Size(x.p))
			wantRight(t, x.p[:len(x.p)-1])
		} else {
			wantWrong(t, x.p, api.ErrForm, x.place)
		}
	}
}

// P9.1, Words: the first one that is not right is told, a statement ahead of its Body, and that ahead of its Else.
func TestFirst(t *testing.T) {
	wantWrong(t, list(none(), none()), api.ErrForm, 1)
	wantWrong(t, list(retry(), none(), none()), api.ErrForm, 2)
	wrongOr := api.Stmt{Kind: api.StOr, Reg: 1, Body: list(none()), Else: list(none())}
	wantWrong(t, list(wrongOr), api.ErrForm, 1)
	wantWrong(t, list(either(list(none()), list(none())), none()), api.ErrForm, 2)
	wantWrong(t, list(either(list(retry(), retry()), list(none())), none()), api.ErrForm, 4)
	wantWrong(t, list(either(list(atomic(retry(), none())), list(none())), none()), api.ErrForm, 4)
	wantWrong(t, list(either(list(atomic(retry())), list(atomic(retry()))), none()), api.ErrForm, 6)
	wantWrong(t, list(api.Stmt{Kind: api.StGet, Reg: 1, Body: list(none())}), api.ErrForm, 1)
}

// P9.1: as many statements as may be, and one more, which is told whatever else is wrong with it.
func TestMany(t *testing.T) {
	last := []api.Stmt{retry(), none(), nest(9, false, none())}
	for _, s := range last {
		wantWrong(t, append(many(api.MaxStmts, retry()), s), api.ErrMany, 101)
	}
	for _, inElse := range []bool{false, true} {
		for deep := 1; deep <= api.MaxNest; deep++ {
			p := append(many(api.MaxStmts-deep, abort()), nest(deep, inElse, retry()))
			wantRight(t, p)
			wantWrong(t, append(p, retry()), api.ErrMany, 101)
			wantWrong(t, append(list(retry()), p...), api.ErrMany, 101)
			p = append(many(api.MaxStmts-deep+1, abort()), nest(deep, inElse, none()))
			wantWrong(t, p, api.ErrMany, 101)
		}
		p := append(many(api.MaxStmts-8, retry()), nest(9, inElse, none()))
		wantWrong(t, p, api.ErrMany, 101)
		wantWrong(t, p[1:], api.ErrDeep, 100)
	}
	wantWrong(t, list(atomic(many(100, retry())...)), api.ErrMany, 101)
	wantWrong(t, list(either(many(50, retry()), many(50, retry()))), api.ErrMany, 101)
	wantRight(t, list(either(many(50, retry()), many(49, retry()))))
	wantWrong(t, append(many(99, retry()), none(), none()), api.ErrForm, 100)
	wantWrong(t, append(list(none()), many(1000, retry())...), api.ErrForm, 1)
}

// P9.1: as deep as may be, and one deeper, which is told ahead of that it is not right.
func TestNest(t *testing.T) {
	for _, inElse := range []bool{false, true} {
		wantRight(t, list(nest(api.MaxNest, inElse, retry())))
		wantRight(t, list(nest(api.MaxNest, inElse, atomic())))
		wantWrong(t, list(nest(api.MaxNest, inElse, none())), api.ErrForm, 8)
		wantWrong(t, list(nest(api.MaxNest+1, inElse, retry())), api.ErrDeep, 9)
		wantWrong(t, list(nest(api.MaxNest+1, inElse, none())), api.ErrDeep, 9)
		wantWrong(t, list(nest(20, inElse, retry()), none()), api.ErrDeep, 9)
		wantWrong(t, list(none(), nest(20, inElse, retry())), api.ErrForm, 1)
		wantWrong(t, list(nest(7, inElse, api.Stmt{Kind: api.StAtomic, Reg: 1, Body: list(atomic(retry()))})), api.ErrForm, 7)
		wantWrong(t, list(retry(), nest(8, inElse, either(nil, list(retry()))), none()), api.ErrDeep, 10)
		wantRight(t, list(nest(8, inElse, retry()), nest(8, inElse, retry()), retry()))
	}
}

// P9.2: all statements are counted, right or not.
func TestSizeAndDeep(t *testing.T) {
	for _, x := range []struct {
		p          []api.Stmt
		size, deep int
	}{
		{nil, 0, 0},
		{[]api.Stmt{}, 0, 0},
		{list(none()), 1, 1},
		{list(atomic()), 1, 1},
		{many(3, retry()), 3, 1},
		{many(1000, none()), 1000, 1},
		{list(atomic(retry(), abort()), retry()), 4, 2},
		{list(either(list(retry()), list(atomic(retry()), retry()))), 5, 3},
		{list(either(list(atomic(retry())), list(retry())), retry()), 5, 3},
		{list(retry(), retry(), either(nil, list(retry()))), 4, 2},
		{list(nest(9, false, retry())), 9, 9},
		{list(nest(30, true, none()), retry()), 31, 30},
		{list(api.Stmt{Kind: -1, Body: list(none()), Else: list(none(), none())}), 4, 2},
	} {
		wantSize(t, x.p, x.size, x.deep)
	}
}

func wantSize(t *testing.T, p []api.Stmt, size, deep int) {
	t.Helper()
	if got := prog.Size(p); got != size {
		t.Errorf("Size = %d, want %d", got, size)
	}
	if got := prog.Deep(p); got != deep {
		t.Errorf("Deep = %d, want %d", got, deep)
	}
}

// P9.3: the Colls of just the kinds from StGet to StList, which rise, each once.
func TestColls(t *testing.T) {
	for _, f := range forms() {
		var want []int
		if f.kind >= api.StGet && f.kind <= api.StList {
			want = []int{6}
		}
		wantColls(t, list(api.Stmt{Kind: f.kind, Coll: 6}), want...)
	}
	for _, kind := range []int{0, -1, 17, math.MinInt, math.MaxInt} {
		wantColls(t, list(api.Stmt{Kind: kind, Coll: 6}))
	}
	wantColls(t, nil)
	wantColls(t, list(get(0)), 0)
	wantColls(t, list(get(2), get(0), get(2), get(1), get(0)), 0, 1, 2)
	wantColls(t, list(get(7), atomic(get(3), either(list(get(5)), list(get(1), get(7)))), get(3)), 1, 3, 5, 7)
	wantColls(t, list(get(1000), get(-5), get(math.MinInt), get(math.MaxInt), get(-5)), math.MinInt, -5, 1000, math.MaxInt)
	wantColls(t, list(api.Stmt{Kind: api.StGet, Coll: 4, Body: list(get(3)), Else: list(get(2))}), 2, 3, 4)
	wantColls(t, list(api.Stmt{Kind: 17, Coll: 4, Body: list(get(3)), Else: list(get(2))}), 2, 3)
}

func wantColls(t *testing.T, p []api.Stmt, want ...int) {
	t.Helper()
	if got := prog.Colls(p); !slices.Equal(got, want) {
		t.Errorf("Colls(%v) = %v, want %v", p, got, want)
	}
}

// P9.3: a StRetry anywhere, and nothing else, waits.
func TestWaits(t *testing.T) {
	for kind := -1; kind <= 18; kind++ {
		want := kind == api.StRetry
		s := api.Stmt{Kind: kind}
		wantWaits(t, list(s), want)
		wantWaits(t, list(abort(), s), want)
		wantWaits(t, list(s, abort()), want)
		wantWaits(t, list(atomic(abort(), s), abort()), want)
		wantWaits(t, list(abort(), either(list(abort()), list(abort(), s)), abort()), want)
		wantWaits(t, list(api.Stmt{Kind: api.StGet, Body: list(s), Else: list(abort())}), want)
		wantWaits(t, list(nest(40, true, s)), want)
	}
	wantWaits(t, nil, false)
	wantWaits(t, list(retry(), retry()), true)
}

func wantWaits(t *testing.T, p []api.Stmt, want bool) {
	t.Helper()
	if got := prog.Waits(p); got != want {
		t.Errorf("Waits(%v) = %v, want %v", p, got, want)
	}
}

// at is a statement with a Reg that tells it from others.
func at(n int, body, other []api.Stmt) api.Stmt {
	return api.Stmt{Kind: n % 20, Reg: n, Body: body, Else: other}
}

// numbered are statements whose Regs are their numbers.
func numbered() []api.Stmt {
	return list(
		at(1, nil, nil),
		at(2, list(at(3, nil, nil), at(4, list(at(5, nil, nil)), list(at(6, nil, nil), at(7, nil, nil)))), list(at(8, nil, list(at(9, nil, nil))))),
		at(10, []api.Stmt{}, list(at(11, list(at(12, list(at(13, nil, nil)), nil)), nil))),
		at(14, nil, nil),
	)
}

// P9.4: each statement is visited in order, with its number, till one is answered with false.
func TestWalk(t *testing.T) {
	all := numbered()
	for stop := 1; stop <= 16; stop++ {
		calls := 0
		prog.Walk(all, func(n int, s api.Stmt) bool {
			calls++
			if n != calls || s.Reg != n {
				t.Errorf("the call %d is with %d and the statement %d", calls, n, s.Reg)
			}
			return n != stop
		})
		if calls != min(stop, 14) {
			t.Errorf("%d calls, want %d", calls, min(stop, 14))
		}
	}
	for _, p := range [][]api.Stmt{nil, {}} {
		prog.Walk(p, func(int, api.Stmt) bool {
			t.Error("a visit without a statement")
			return true
		})
	}
}

// P9.4: what is visited is the whole statement.
func TestWalkTellsAll(t *testing.T) {
	s := api.Stmt{Kind: 1, Coll: 2, Reg: 3, A: api.Arg{Reg: 4, N: 5}, B: api.Arg{Reg: 6, N: 7}, Body: list(retry()), Else: list(abort(), retry())}
	var got []api.Stmt
	prog.Walk(list(s), func(_ int, s api.Stmt) bool {
		got = append(got, s)
		return true
	})
	if want := list(s, retry(), abort(), retry()); !reflect.DeepEqual(got, want) {
		t.Errorf("visited %v, want %v", got, want)
	}
}

// P1: a visit that is none is not called; one that panics ends the walk.
func TestWalkOfOddVisits(t *testing.T) {
	prog.Walk(numbered(), nil)
	prog.Walk(nil, nil)
	calls := 0
	prog.Walk(numbered(), func(n int, _ api.Stmt) bool {
		if calls++; n == 5 {
			panic("visit")
		}
		return true
	})
	if calls != 5 {
		t.Errorf("%d calls, want 5", calls)
	}
}

// P9.4: a visit may walk itself, and what it does to its own statement changes nothing.
func TestWalkWithin(t *testing.T) {
	all := numbered()
	calls := 0
	prog.Walk(all, func(n int, s api.Stmt) bool {
		if s.Reg != n {
			t.Errorf("the statement %d is %d", n, s.Reg)
		}
		prog.Walk(s.Body, func(int, api.Stmt) bool { calls++; return true })
		calls += prog.Size(s.Else)
		s.Reg, s.Body, s.Else = -1, nil, numbered()
		return true
	})
	deeper := 0 // each statement is within so many others
	for _, deep := range depths(all) {
		deeper += deep - 1
	}
	if calls != deeper {
		t.Errorf("%d statements within others, want %d", calls, deeper)
	}
	if !reflect.DeepEqual(all, numbered()) {
		t.Errorf("the statements are changed: %v", all)
	}
}

// P1: as deep as the document bounds, and a great many side by side.
func TestGreat(t *testing.T) {
	const levels = 1 << 16
	for _, inElse := range []bool{false, true} {
		p := list(nest(levels, inElse, get(3)))
		wantSize(t, p, levels, levels)
		wantColls(t, p, 3)
		wantWaits(t, p, false)
		wantWrong(t, p, api.ErrDeep, 9)
	}
	wide := many(1<<20, retry())
	wide[len(wide)-1] = get(4)
	wantSize(t, wide, 1<<20, 1)
	wantColls(t, wide, 4)
	wantWaits(t, wide, true)
	wantWrong(t, wide, api.ErrMany, 101)
}

// P1: what is found ahead of the end is told, though the statements lie within themselves.
func TestEndless(t *testing.T) {
	p := list(atomic(), retry())
	p[0].Body = p
	wantWrong(t, p, api.ErrDeep, 9)
	q := list(atomic())
	q[0].Body, q[0].Else = list(retry()), q
	wantWaits(t, q, true)
	calls := 0
	prog.Walk(p, func(n int, _ api.Stmt) bool {
		calls++
		return n < 1000
	})
	if calls != 1000 {
		t.Errorf("%d calls, want 1000", calls)
	}
}

// Rule 3: what is handed in is not changed, nor what is behind it in its memory.
func TestHandedIn(t *testing.T) {
	room := append(numbered(), many(8, get(5))...)
	was := append(numbered(), many(8, get(5))...)
	p := room[:4]
	three := append(kinds(), 9, 9, 9)[:3]
	_ = prog.Right(p, three...)
	prog.Size(p)
	prog.Deep(p)
	prog.Colls(p)
	prog.Waits(p)
	prog.Walk(p, func(int, api.Stmt) bool { return true })
	if !reflect.DeepEqual(room, was) {
		t.Errorf("the statements are %v, want %v", room, was)
	}
	if !slices.Equal(three[:6], append(kinds(), 9, 9, 9)) {
		t.Errorf("the kinds are %v", three[:6])
	}
}

// Rules 3 and 6: what is handed out is the caller's own, and the next answer is the same.
func TestHandedOut(t *testing.T) {
	p := list(get(2), none(), get(1))
	colls := prog.Colls(p)
	colls[0], colls[1] = 8, 9
	wantColls(t, p, 1, 2)
	var f *api.Fault
	if errors.As(prog.Right(p, kinds()...), &f) {
		f.At, f.Err = 7, api.ErrDeep
	}
	wantWrong(t, p, api.ErrForm, 2)
}
