package eval_test

import (
	"maps"
	"math"
	"math/big"
	"slices"
	"testing"

	"concord/api"
	"concord/eval"
	"concord/model"
	"concord/prog"
)

// world is what a transaction has come to, written down in the plainest way: no statement changes one, each makes another one.
type world struct {
	kinds []int
	colls []map[int]int
	regs  [api.Regs + 1]int // the first one is 0
	told  *heard
}

// heard is a number that was told, behind others.
type heard struct {
	ahead *heard
	n     int
}

// all are what was told, in order.
func (h *heard) all() []int {
	var all []int
	for ; h != nil; h = h.ahead {
		all = append(all, h.n)
	}
	slices.Reverse(all)
	return all
}

// Why a world is the last one; on: it is not. Others are ends.
const (
	on   = 0
	many = -1
)

func (w world) telling(n int) world {
	w.told = &heard{w.told, n}
	return w
}

func (w world) setting(reg, n int) world {
	w.regs[reg] = n
	return w
}

// having is with another collection in the place of one.
func (w world) having(coll int, change func(keys map[int]int)) world {
	w.colls = slices.Clone(w.colls)
	w.colls[coll] = maps.Clone(w.colls[coll])
	change(w.colls[coll])
	return w
}

// sum is what numbers are together, modulo 2^64, from -2^63 on, by numbers without bound.
func sum(all ...int) *big.Int {
	x := new(big.Int)
	for _, n := range all {
		x.Add(x, big.NewInt(int64(n)))
	}
	half := new(big.Int).Lsh(big.NewInt(1), 63)
	x.Add(x, half)
	x.Mod(x, new(big.Int).Lsh(big.NewInt(1), 64))
	return x.Sub(x, half)
}

// modulo is what Args are together, modulo a number, from 0 on.
func (w world) modulo(n int, all ...api.Arg) int {
	var parts []int
	for _, a := range all {
		parts = append(parts, int(sum(w.regs[a.Reg], a.N).Int64()))
	}
	x := sum(parts...)
	return int(x.Mod(x, big.NewInt(int64(n))).Int64())
}

// all does statements with so many steps left.
func (w world) all(p []api.Stmt, left *int) (world, int) {
	if len(p) == 0 {
		return w, on
	}
	if *left == 0 {
		return w, api.EndCapped
	}
	*left--
	w, why := w.one(p[0], left)
	if why != on {
		return w, why
	}
	return w.all(p[1:], left)
}

func (w world) one(s api.Stmt, left *int) (world, int) {
	switch s.Kind {
	case api.StPut:
		return w.put(s.Coll, w.modulo(64, s.A), w.modulo(1000, s.B))
	case api.StDel:
		return w.having(s.Coll, func(keys map[int]int) { delete(keys, w.modulo(64, s.A)) }), on
	case api.StSet:
		return w.setting(s.Reg, w.modulo(1000, s.A)), on
	case api.StAdd:
		return w.setting(s.Reg, w.modulo(1000, s.A, s.B)), on
	case api.StIf:
		if w.modulo(1000, s.A) < w.modulo(1000, s.B) {
			return w.all(s.Body, left)
		}
		return w.all(s.Else, left)
	case api.StLoop:
		why := on
		for i := 0; i < s.A.N && why == on; i++ {
			w, why = w.all(s.Body, left)
		}
		return w, why
	case api.StAtomic:
		x, why := w.all(s.Body, left)
		if why == api.EndAborted {
			x.colls, why = w.colls, on
		}
		return x, why
	case api.StOr:
		x, why := w.all(s.Body, left)
		if why == api.EndBlocked {
			return w.all(s.Else, left)
		}
		return x, why
	case api.StRetry:
		return w, api.EndBlocked
	case api.StAbort:
		return w, api.EndAborted
	case api.StList:
		return w.list(s.Coll), on
	}
	n := w.asked(s, w.modulo(64, s.A), w.modulo(64, s.B))
	return w.setting(s.Reg, n).telling(n), on
}

func (w world) put(coll, key, value int) (world, int) {
	if _, there := w.colls[coll][key]; !there && len(w.colls[coll]) == 100 {
		return w, many
	}
	if w.kinds[coll] == api.CollSet {
		value = 1
	}
	return w.having(coll, func(keys map[int]int) { keys[key] = value }), on
}

func (w world) list(coll int) world {
	keys := w.colls[coll]
	w = w.telling(len(keys))
	for _, key := range slices.Sorted(maps.Keys(keys)) {
		w = w.telling(key).telling(keys[key])
	}
	return w
}

func (w world) asked(s api.Stmt, key, to int) int {
	keys := w.colls[s.Coll]
	value, there := keys[key]
	switch s.Kind {
	case api.StGet:
		if there {
			return value
		}
		return -1
	case api.StHas:
		if there {
			return 1
		}
		return 0
	case api.StSize:
		return len(keys)
	}
	var above, within []int
	for k := range keys {
		if k >= key {
			above = append(above, k)
			if k <= to {
				within = append(within, k)
			}
		}
	}
	switch {
	case s.Kind == api.StRange:
		return len(within)
	case len(above) == 0:
		return -1
	}
	return slices.Min(above)
}

// ended is how a transaction ends in a world, what it is told, and the world behind it; many: it has an error.
func (w world) ended(p []api.Stmt) (world, int) {
	left := api.MaxEval
	w.regs, w.told = [api.Regs + 1]int{}, nil
	x, why := w.all(p, &left)
	switch why {
	case on:
		return x, api.EndDone
	default:
		x.colls = w.colls
		return x, why
	}
}

// state is that of a world.
func (w world) state(t *testing.T) *model.State {
	t.Helper()
	s := openOf(t, w.kinds...)
	for coll, keys := range w.colls {
		for key, value := range keys {
			with(t, s, coll, pair(key, value))
		}
	}
	return s
}

// look holds what Run answers against what is written down: it tells how that ends.
func (w world) look(t *testing.T, p []api.Stmt) int {
	t.Helper()
	s := w.state(t)
	was := s.Copy()
	x, end := w.ended(p)
	o, got, err := eval.Run(s, p)
	switch {
	case end == many:
		wantErr(t, "Run", err, api.ErrMany)
		if o != nil || got.End != 0 || len(got.Told) != 0 {
			t.Errorf("Run = %v, %v beside an error", o, got)
		}
	case err != nil || got.End != end || !slices.Equal(got.Told, x.told.all()) || !o.Same(x.state(t)):
		t.Errorf("Run = %v, %v, %v, want %d, %v, %v", o, got, err, end, x.told.all(), x.colls)
	}
	if !s.Same(was) {
		t.Error("the state is another one")
	}
	if t.Failed() {
		t.Logf("of %v: %s", w, shown(p))
	}
	return end
}

// draws are numbers below a bound that look random, and are the same each time.
func draws(seed uint64) func(below int) int {
	return func(below int) int {
		seed = seed*6364136223846793005 + 1442695040888963407
		x := seed
		x ^= x >> 29
		x *= 0xBF58476D1CE4E5B9
		return int((x ^ x>>32) % uint64(below))
	}
}

func pick(draw func(int) int, all ...int) int { return all[draw(len(all))] }

// drawnWorld draws collections; some have as many keys as may be, or nearly so, some have values that are great.
func drawnWorld(draw func(int) int) world {
	w := world{kinds: []int{api.CollMap, api.CollSet, api.CollOrdered}[draw(3):]}
	for draw(4) > 0 && len(w.kinds) < api.MaxColls {
		w.kinds = append(w.kinds, 1+draw(3))
	}
	for _, kind := range w.kinds {
		keys := map[int]int{}
		for range draw(6) {
			keys[pick(draw, -70, -1, 0, 1, 2, 3, 4, 5, 62, 63, 64, 100, math.MinInt, math.MaxInt)] = pick(draw, 0, 1, 2, 3, 999, 1000, -1, -7, math.MinInt, math.MinInt+5, math.MaxInt, math.MaxInt-3, draw(5000))
		}
		if draw(5) == 0 {
			for most := 100 - draw(4); len(keys) < most; {
				keys[2000+draw(1000)] = draw(5)
			}
		}
		if kind == api.CollSet {
			for key := range keys {
				keys[key] = 1
			}
		}
		w.colls = append(w.colls, keys)
	}
	return w
}

// drawnArg draws an Arg, mostly of those that come to the same small keys.
func drawnArg(draw func(int) int) api.Arg {
	a := api.Arg{N: pick(draw, 0, 1, 2, 3, 4, 5, 62, 63, 64, 65, 128, -1, -2, -63, -64, 999, -999, draw(1999)-999)}
	if draw(2) == 0 {
		a = api.Arg{Reg: 1 + draw(8), N: pick(draw, 0, 0, 0, 1, -1, 2, 999, -999, a.N)}
	}
	return a
}

// drawer draws statements of a world that are right, with so many left of them.
type drawer struct {
	draw func(int) int
	w    world
	left int
}

func (d *drawer) list(deep int) []api.Stmt {
	var p []api.Stmt
	for d.left > 0 && d.draw(6) > 0 {
		d.left--
		p = append(p, d.stmt(deep))
	}
	return p
}

func (d *drawer) stmt(deep int) api.Stmt {
	if deep < api.MaxNest && d.draw(5) < 2 {
		return d.block(deep)
	}
	if d.draw(9) == 0 {
		return api.Stmt{Kind: pick(d.draw, api.StRetry, api.StAbort)}
	}
	return d.call()
}

// block is a statement with others in it.
func (d *drawer) block(deep int) api.Stmt {
	s := api.Stmt{Kind: pick(d.draw, api.StIf, api.StLoop, api.StAtomic, api.StAtomic, api.StOr, api.StOr)}
	switch s.Kind {
	case api.StIf:
		s.A, s.B = drawnArg(d.draw), drawnArg(d.draw)
	case api.StLoop:
		s.A.N = pick(d.draw, 0, 1, 2, 3, 5, 5)
	}
	s.Body = d.list(deep + 1)
	if s.Kind == api.StIf || s.Kind == api.StOr {
		s.Else = d.list(deep + 1)
	}
	return s
}

// call is a statement that does something with a collection, or a register.
func (d *drawer) call() api.Stmt {
	s := api.Stmt{Kind: 1 + d.draw(api.StAdd), Reg: 1 + d.draw(8), A: drawnArg(d.draw), B: drawnArg(d.draw), Coll: d.draw(len(d.w.kinds))}
	for (s.Kind == api.StCeil || s.Kind == api.StRange) && d.w.kinds[s.Coll] != api.CollOrdered {
		s.Kind = 1 + d.draw(api.StAdd)
	}
	switch s.Kind {
	case api.StPut, api.StDel, api.StList:
		s.Reg = 0
	case api.StSet, api.StAdd:
		s.Coll = 0
	}
	switch s.Kind {
	case api.StSize, api.StList:
		s.A = api.Arg{}
	}
	switch s.Kind {
	case api.StPut, api.StRange, api.StAdd:
	default:
		s.B = api.Arg{}
	}
	return s
}

// drawn draws a transaction of a world.
func drawn(draw func(int) int, w world) []api.Stmt {
	d := drawer{draw, w, 1 + draw(99)}
	var p []api.Stmt
	for range 1 + draw(4) {
		p = append(p, d.list(1)...)
	}
	return p
}

// drawnLong draws one that lies in loops, so that it may have too many steps.
func drawnLong(draw func(int) int, w world) []api.Stmt {
	d := drawer{draw, w, 3 + draw(25)}
	p := append(d.list(4), d.call(), d.call())
	for range 3 {
		p = []api.Stmt{d.call(), {Kind: api.StLoop, A: api.Arg{N: 4 + draw(2)}, Body: p}}
	}
	return p
}

// P11.1: transactions that are drawn do what they do to what is written down plainly.
func TestDrawn(t *testing.T) {
	draw := draws(11)
	of := map[int]int{}
	for i := range 12000 {
		w := drawnWorld(draw)
		p := drawn(draw, w)
		if i%10 == 0 {
			p = drawnLong(draw, w)
		}
		if err := prog.Right(p, w.kinds...); err != nil {
			t.Fatalf("%v of %v", err, p)
		}
		of[w.look(t, p)]++
		if t.Failed() {
			t.Fatalf("draw %d", i)
		}
	}
	for _, end := range []int{api.EndDone, api.EndAborted, api.EndBlocked, api.EndCapped, many} {
		if of[end] < 150 {
			t.Errorf("%d of the transactions have the end %d, too few to tell by", of[end], end)
		}
	}
}

// P11.1: all transactions of up to four of some statements, in all ways in which they may lie in one another.
func TestAllShort(t *testing.T) {
	w := world{kinds: []int{api.CollMap}, colls: []map[int]int{{1: 5}}}
	behind := lines(t, "put 0 3 r1; get 0 1 r2")
	for n := range 5 {
		for _, p := range short(n, leaves(t)) {
			w.look(t, slices.Concat(p, behind))
		}
		if t.Failed() {
			return
		}
	}
}

func leaves(t *testing.T) []api.Stmt {
	return lines(t, "put 0 1 r1+6; get 0 1 r1; retry; abort")
}

// short are all lists of so many statements: leaves, and those that others lie in.
func short(n int, leaves []api.Stmt) [][]api.Stmt {
	if n == 0 {
		return [][]api.Stmt{nil}
	}
	var all [][]api.Stmt
	for within := range n {
		for _, s := range blocks(within, leaves) {
			for _, rest := range short(n-1-within, leaves) {
				all = append(all, slices.Concat([]api.Stmt{s}, rest))
			}
		}
	}
	return all
}

// blocks are all statements with so many in them.
func blocks(within int, leaves []api.Stmt) []api.Stmt {
	var all []api.Stmt
	if within == 0 {
		all = slices.Clone(leaves)
	}
	for _, body := range short(within, leaves) {
		all = append(all, api.Stmt{Kind: api.StAtomic, Body: body}, api.Stmt{Kind: api.StLoop, A: api.Arg{N: 2}, Body: body})
	}
	for inBody := range within + 1 {
		for _, body := range short(inBody, leaves) {
			for _, other := range short(within-inBody, leaves) {
				all = append(all, api.Stmt{Kind: api.StOr, Body: body, Else: other})
			}
		}
	}
	return all
}

// P11.2: transactions that are drawn do, one behind the other, what each does alone on what those ahead left.
func TestDrawnAll(t *testing.T) {
	draw := draws(12)
	refused, right := 0, 0
	for i := range 2500 {
		first := drawnWorld(draw)
		var l [][]api.Stmt
		for range draw(8) {
			l = append(l, drawn(draw, first))
			if draw(40) == 0 {
				l[len(l)-1] = append(l[len(l)-1], api.Stmt{Kind: api.StGet, Coll: 8, Reg: 1})
			}
		}
		if first.lookAll(t, l) {
			right++
		} else {
			refused++
		}
		if t.Failed() {
			t.Fatalf("draw %d", i)
		}
	}
	if refused < 200 || right < 200 {
		t.Errorf("%d were refused, %d not", refused, right)
	}
}

// lookAll holds what All answers against what is written down: it tells whether all are right.
func (w world) lookAll(t *testing.T, l [][]api.Stmt) bool {
	t.Helper()
	s := w.state(t)
	was := s.Copy()
	o, got, err := eval.All(s, l...)
	if !s.Same(was) {
		t.Error("the state is another one")
	}
	var want []api.Eval
	for i, p := range l {
		why := api.ErrForm
		var x world
		end := many
		if prog.Right(p, w.kinds...) == nil {
			why = api.ErrMany
			x, end = w.ended(p)
		}
		if end == many {
			wantFault(t, "All", err, why, i+1)
			if o != nil || len(got) != 0 {
				t.Errorf("All = %v, %v beside an error", o, got)
			}
			return false
		}
		w = x
		want = append(want, api.Eval{End: end, Told: x.told.all()})
	}
	if err != nil || !o.Same(w.state(t)) {
		t.Errorf("All = %v, %v, want %v", o, err, w.colls)
	}
	wantEvals(t, got, want...)
	return true
}

// alone are a drawn state and transaction that has no error and is not ended by its steps, and what comes of it; it may have one statement more, that the rest lies in.
func alone(t *testing.T, draw func(int) int) (*model.State, []api.Stmt, *model.State, api.Eval) {
	t.Helper()
	for {
		w := drawnWorld(draw)
		p := drawn(draw, w)
		left := api.MaxEval - 10
		_, why := w.all(p, &left)
		if why != many && why != api.EndCapped && prog.Size(p) < api.MaxStmts-10 && prog.Deep(p) < api.MaxNest {
			s := w.state(t)
			o, x := run(t, s, p)
			return s, p, o, x
		}
	}
}

func wantLike(t *testing.T, s *model.State, p []api.Stmt, o *model.State, x api.Eval) {
	t.Helper()
	wantSame(t, wantOf(t, s, p, x.End, x.Told...), o)
}

// P11.3: in an atomic it does what it does alone, but that an abort is no more one.
func TestInAtomic(t *testing.T) {
	draw := draws(13)
	of := map[int]int{}
	for range 2500 {
		s, p, o, x := alone(t, draw)
		of[x.End]++
		if x.End == api.EndAborted {
			x.End = api.EndDone
		}
		wantLike(t, s, []api.Stmt{{Kind: api.StAtomic, Body: p}}, o, x)
		if t.Failed() {
			return
		}
	}
	if of[api.EndDone] < 200 || of[api.EndAborted] < 200 || of[api.EndBlocked] < 200 {
		t.Errorf("of the ends there are %v", of)
	}
}

// P11.4: with a retry at its beginning, and anything behind that, an or does what its Else does.
func TestInElse(t *testing.T) {
	draw := draws(14)
	for range 2500 {
		s, p, o, x := alone(t, draw)
		body := append(lines(t, "retry"), p[:min(len(p), draw(4))]...)
		if both := []api.Stmt{{Kind: api.StOr, Body: body, Else: p}}; prog.Size(both) <= api.MaxStmts {
			wantLike(t, s, both, o, x)
		}
		wantLike(t, s, []api.Stmt{{Kind: api.StOr, Body: body[:1], Else: p}}, o, x)
		if t.Failed() {
			return
		}
	}
}

// P11.5: what does not end with EndDone changes nothing, so that the next one is told what it is told without it.
func TestOtherEnds(t *testing.T) {
	draw := draws(15)
	for range 3000 {
		w := drawnWorld(draw)
		p := drawn(draw, w)
		if _, end := w.ended(p); end == api.EndDone || end == many {
			continue
		}
		s := w.state(t)
		var q []api.Stmt
		for coll := range w.kinds {
			q = append(q, api.Stmt{Kind: api.StList, Coll: coll})
		}
		o, all, err := eval.All(s, p, q)
		if err != nil || len(all) != 2 {
			t.Fatalf("All = %v, %v", all, err)
		}
		wantLike(t, s, q, o, all[1])
		wantSame(t, o, s)
	}
}

// Rule 6: the same again, from the same, also where lists are long.
func TestSameAgain(t *testing.T) {
	draw := draws(16)
	for range 2000 {
		s, p, o, x := alone(t, draw)
		wantLike(t, s, p, o, x)
	}
}
