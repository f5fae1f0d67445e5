package model_test

import (
	"cmp"
	"slices"
	"testing"

	"concord/api"
	"concord/model"
)

// plain is what a state is, written down in the plainest way: of each collection its keys and values, as they came.
type plain struct {
	kinds []int
	colls [][]api.Pair
}

// at is where a key is in a collection; -1: nowhere.
func (p *plain) at(coll, key int) int {
	return slices.IndexFunc(p.colls[coll], func(x api.Pair) bool { return x.Key == key })
}

func (p *plain) rising(coll int) []api.Pair {
	return slices.SortedFunc(slices.Values(p.colls[coll]), func(x, y api.Pair) int { return cmp.Compare(x.Key, y.Key) })
}

func (p *plain) clone() plain {
	o := plain{kinds: p.kinds}
	for _, all := range p.colls {
		o.colls = append(o.colls, slices.Clone(all))
	}
	return o
}

func (p *plain) same(o *plain) bool {
	for coll := range p.colls {
		if !slices.Equal(p.rising(coll), o.rising(coll)) {
			return false
		}
	}
	return slices.Equal(p.kinds, o.kinds)
}

// run is a state beside what is written down of it. Each of its calls is done with both, and its answer looked at.
type run struct {
	t *testing.T
	s *model.State
	plain
}

func (r *run) put(coll, key, value int) {
	r.t.Helper()
	err := r.s.Put(coll, key, value)
	if r.kinds[coll] == api.CollSet {
		value = 1
	}
	i := r.at(coll, key)
	switch {
	case i < 0 && len(r.colls[coll]) == api.MaxKeys:
		wantErr(r.t, "Put", err, api.ErrMany)
	case err != nil:
		r.t.Errorf("Put(%d, %d, %d): %v", coll, key, value, err)
	case i < 0:
		r.colls[coll] = append(r.colls[coll], pair(key, value))
	default:
		r.colls[coll][i].Value = value
	}
}

func (r *run) del(coll, key int) {
	r.t.Helper()
	if err := r.s.Del(coll, key); err != nil {
		r.t.Errorf("Del(%d, %d): %v", coll, key, err)
	}
	if i := r.at(coll, key); i >= 0 {
		r.colls[coll] = slices.Delete(r.colls[coll], i, i+1)
	}
}

// look looks that all collections have what is written down, and none of the other keys up to one.
func (r *run) look(keys int) {
	r.t.Helper()
	for coll := range r.colls {
		wantAll(r.t, r.s, coll, r.rising(coll)...)
		for key := range keys {
			if r.at(coll, key) < 0 {
				wantAbsent(r.t, r.s, coll, key)
			}
		}
	}
}

// order looks what an ordered collection tells from a key on, up to another one.
func (r *run) order(coll, from, to int) {
	r.t.Helper()
	if r.kinds[coll] != api.CollOrdered {
		inOrder(r.t, r.s, coll, from, func(what string, err error) {
			r.t.Helper()
			wantErr(r.t, what, err, api.ErrKind)
		})
		return
	}
	var within, above []api.Pair
	for _, x := range r.rising(coll) {
		if x.Key >= from {
			above = append(above, x)
			if x.Key <= to {
				within = append(within, x)
			}
		}
	}
	wantRange(r.t, r.s, coll, from, to, len(within))
	if len(above) == 0 {
		wantNoCeil(r.t, r.s, coll, from)
	} else {
		wantCeil(r.t, r.s, coll, from, above[0].Key)
	}
}

// draws are numbers below a bound that look random, and are the same each time.
func draws(seed uint64) func(below int) int {
	return func(below int) int {
		seed = seed*6364136223846793005 + 1442695040888963407
		x := seed
		x ^= x >> 29
		x *= 0xBF58476D1CE4E5B9
		return int((x ^ x>>32) % uint64(below))
	}
}

// begin is a run of collections whose kinds are drawn.
func begin(t *testing.T, draw func(int) int) *run {
	t.Helper()
	r := &run{t: t}
	for range 1 + draw(api.MaxColls) {
		r.kinds = append(r.kinds, 1+draw(3))
		r.colls = append(r.colls, nil)
	}
	r.s = open(t, r.kinds...)
	return r
}

// step does one call that is drawn; so many of a hundred put.
func (r *run) step(draw func(int) int, keys, puts int) {
	r.t.Helper()
	coll, key := draw(len(r.colls)), draw(keys)
	switch n := draw(100); {
	case n < puts:
		r.put(coll, key, draw(6)-2)
	case n < 90:
		r.del(coll, key)
	default:
		r.order(coll, key-1, draw(keys+2)-1)
	}
}

// P8.1, P8.2, P8.4, P2: any run of calls does what it does to what is written down plainly.
func TestRunsOfCalls(t *testing.T) {
	for seed := range uint64(60) {
		draw := draws(seed)
		r := begin(t, draw)
		keys := []int{3, 10, 40}[draw(3)]
		for range 300 {
			r.step(draw, keys, 55)
			r.look(keys)
			if t.Failed() {
				t.Fatalf("seed %d", seed)
			}
		}
		if got := r.s.Kinds(); !slices.Equal(got, r.kinds) {
			t.Errorf("seed %d: Kinds = %v, want %v", seed, got, r.kinds)
		}
	}
}

// P8.2, P2: and so where there get to be too many keys.
func TestLongRunsOfCalls(t *testing.T) {
	full := 0
	for seed := range uint64(6) {
		draw := draws(100 + seed)
		r := begin(t, draw)
		for i := range 3000 {
			r.step(draw, 150, 80)
			for _, all := range r.colls {
				if len(all) == api.MaxKeys {
					full++
				}
			}
			if i%50 == 0 {
				r.look(150)
			}
			if t.Failed() {
				t.Fatalf("seed %d", seed)
			}
		}
	}
	if full < 1000 {
		t.Errorf("just %d times there were as many keys as may be", full)
	}
}

// P8.3: copies go ways of their own, and are the same just if what is written down of both is.
func TestRunsOfCopies(t *testing.T) {
	same, other := 0, 0
	for seed := range uint64(200) {
		draw := draws(1000 + seed)
		r := begin(t, draw)
		for range draw(20) {
			r.step(draw, 3, 60)
		}
		o := &run{t: t, s: r.s.Copy(), plain: r.clone()}
		for range 30 {
			switch draw(5) {
			case 0:
				o = &run{t: t, s: r.s.Copy(), plain: r.clone()}
			case 1, 2:
				r.step(draw, 3, 60)
			default:
				o.step(draw, 3, 60)
			}
			r.look(3)
			o.look(3)
			want := r.same(&o.plain)
			wantSame(t, r.s, o.s, want)
			if want {
				same++
			} else {
				other++
			}
			if t.Failed() {
				t.Fatalf("seed %d", seed)
			}
		}
	}
	if same < 500 || other < 500 {
		t.Errorf("%d times two were the same, %d times they were not", same, other)
	}
}

// P8.2, P8.4, P8.5: all runs of five of some calls.
func TestAllShortRuns(t *testing.T) {
	all := []func(*run){
		func(r *run) { r.put(0, 1, 5) },
		func(r *run) { r.put(0, 2, 6) },
		func(r *run) { r.put(0, 1, 7) },
		func(r *run) { r.put(1, 1, 8) },
		func(r *run) { r.del(0, 1) },
		func(r *run) { r.del(0, 2) },
		func(r *run) { r.del(1, 1) },
	}
	count := 1
	for range 5 {
		count *= len(all)
	}
	for n := range count {
		kinds := []int{api.CollOrdered, api.CollSet}
		r := &run{t: t, s: open(t, kinds...), plain: plain{kinds, make([][]api.Pair, 2)}}
		for rest, i := n, 0; i < 5; i++ {
			all[rest%len(all)](r)
			rest /= len(all)
		}
		r.look(3)
		for from := range 4 {
			for to := range 4 {
				r.order(0, from, to)
			}
		}
		if t.Failed() {
			t.Fatalf("run %d", n)
		}
	}
}

// P8.5: Range of all is Size, which is how many List tells; Ceil goes on from key to key through List.
func TestSizes(t *testing.T) {
	for seed := range uint64(100) {
		draw := draws(2000 + seed)
		s := open(t, api.CollOrdered)
		for range draw(3 * api.MaxKeys) {
			s.Put(0, draw(400)-200, draw(9))
			if draw(3) == 0 {
				s.Del(0, draw(400)-200)
			}
		}
		all, err := s.List(0)
		if err != nil {
			t.Fatal(err)
		}
		wantAll(t, s, 0, all...)
		wantRange(t, s, 0, -200, 200, len(all))
		key := -200
		for _, x := range all {
			wantCeil(t, s, 0, key, x.Key)
			key = x.Key + 1
		}
		wantNoCeil(t, s, 0, key)
		if t.Failed() {
			t.Fatalf("seed %d", seed)
		}
	}
}
