package blocks_test

import (
	"math"
	"slices"
	"testing"

	"concord/api"
	"concord/blocks"
	"concord/words"
)

// plain is what blocks are, written down in the plainest way: every word of the arena, and every block that ever was, by places.
type plain struct {
	words []uint64
	all   []plainBlock
	top   int
	frees int
}

type plainBlock struct {
	place, size, generation int
	live                    bool
	freed                   int // which Free it was that freed it last
}

func (x plainBlock) ref() uint64 { return uint64(x.generation)*generation + uint64(x.place) }

func (p *plain) lay(x plainBlock) {
	head := uint64(x.generation)*generation + 2*uint64(x.size)
	if x.live {
		head++
	}
	p.words[x.place] = head
}

// alloc is which block is given out; -1: there is no room.
func (p *plain) alloc(n int) int {
	best := -1
	for i, x := range p.all {
		if x.size == n && !x.live && (best < 0 || x.freed > p.all[best].freed) {
			best = i
		}
	}
	if best < 0 {
		if p.top+n+1 > len(p.words) {
			return -1
		}
		best = len(p.all)
		p.all = append(p.all, plainBlock{place: p.top, size: n})
		p.top += n + 1
	}
	x := &p.all[best]
	x.live = true
	p.lay(*x)
	for i := range n {
		p.words[x.place+1+i] = 0
	}
	return best
}

// find is which live block a ref is of; -1: none.
func (p *plain) find(ref uint64) int {
	return slices.IndexFunc(p.all, func(x plainBlock) bool { return x.live && x.ref() == ref })
}

func (p *plain) free(i int) {
	p.frees++
	x := &p.all[i]
	x.live, x.freed = false, p.frees
	x.generation++
	p.lay(*x)
}

// P2.2 to P2.7, P2: any run of calls does what it does to what is written down plainly.
func TestRunsOfCalls(t *testing.T) {
	for seed := range uint64(30) {
		draw := draws(seed)
		n := 20 + int(draw(40))
		from := int(draw(4))
		a, b := both(t, n, from)
		r := &run{t: t, a: a, b: b, draw: draw, plain: &plain{words: a.Words(), top: from}, given: []uint64{0}}
		for range 500 {
			r.step()
			r.look()
			if t.Failed() {
				t.Fatalf("seed %d", seed)
			}
		}
		if len(r.given) < 20 {
			t.Fatalf("seed %d: just %d blocks were given out", seed, len(r.given))
		}
	}
}

// run is blocks beside what is written down of them, and all refs that were ever given out.
type run struct {
	t     *testing.T
	a     *words.Arena
	b     *blocks.Blocks
	draw  func(uint64) uint64
	plain *plain
	given []uint64
}

func (r *run) step() {
	r.t.Helper()
	ref := r.given[r.draw(uint64(len(r.given)))]
	if live := r.b.Live(); len(live) > 0 && r.draw(3) > 0 {
		ref = live[r.draw(uint64(len(live)))]
	}
	switch r.draw(4) {
	case 0:
		r.alloc(1 + int(r.draw(3)))
	case 1:
		r.free(ref)
	default:
		r.access(ref, int(r.draw(5))-1)
	}
}

// alloc gives a block out, whose ref nobody had ever been given.
func (r *run) alloc(n int) {
	r.t.Helper()
	i := r.plain.alloc(n)
	if i < 0 {
		wantAllocRefused(r.t, r.b, n, api.ErrFull)
		return
	}
	want := r.plain.all[i].ref()
	if slices.Contains(r.given[1:], want) {
		r.t.Fatalf("%#x was given out before", want)
	}
	wantAtMost(r.t, r.a, n+1, func() { wantAlloc(r.t, r.b, n, want) })
	r.given = append(r.given, want)
}

func (r *run) free(ref uint64) {
	r.t.Helper()
	i := r.plain.find(ref)
	if i < 0 {
		wantStale(r.t, r.a, r.b, ref)
		return
	}
	r.plain.free(i)
	wantAtMost(r.t, r.a, 1, func() { free(r.t, r.b, ref) })
	wantStale(r.t, r.a, r.b, ref)
}

// access does a Load, a Store or a CAS of a word that may be there, or not.
func (r *run) access(ref uint64, i int) {
	r.t.Helper()
	k := r.plain.find(ref)
	if k < 0 {
		wantStale(r.t, r.a, r.b, ref)
		return
	}
	x := r.plain.all[k]
	if i < 0 || i >= x.size {
		wantUntouched(r.t, r.a, r.b, func() { wantRefused(r.t, r.b, ref, i, api.ErrRange, i) })
		return
	}
	place := x.place + 1 + i
	word, old, next := &r.plain.words[place], r.draw(3), r.draw(3)
	wantWord(r.t, r.b, ref, i, place)
	switch r.draw(3) {
	case 0:
		wantLoad(r.t, r.b, ref, i, *word)
	case 1:
		store(r.t, r.b, ref, i, next)
		*word = next
	default:
		wantCAS(r.t, r.b, ref, i, old, next, *word == old)
		if *word == old {
			*word = next
		}
	}
}

// look looks that all is as it is written down, and that every live block's words are its own.
func (r *run) look() {
	r.t.Helper()
	var live []uint64
	used := 0
	for _, x := range r.plain.all {
		if x.live {
			live = append(live, x.ref())
			used += 1 + x.size
			wantSize(r.t, r.b, x.ref(), x.size)
		}
	}
	wantLooks(r.t, r.b, r.plain.top, used, live...)
	wantAt(r.t, r.a, 0, r.plain.words...)
}

// P2.5: what is stored in a block is in no other one, up to a whole arena of them.
func TestApart(t *testing.T) {
	_, b := both(t, api.MaxWords, 1)
	var refs []uint64
	for n := 1; ; n = 1 + n%api.MaxBlock {
		ref, err := b.Alloc(n)
		if err != nil {
			wantErr(t, "Alloc", err, api.ErrFull, 0)
			break
		}
		refs = append(refs, ref)
	}
	for k, ref := range refs {
		n, _ := b.Size(ref)
		for i := range n {
			store(t, b, ref, i, math.MaxUint64-uint64(1000*k+i))
		}
	}
	if !slices.Equal(b.Live(), refs) || len(refs) < api.MaxWords/api.MaxBlock {
		t.Errorf("Live = %#x, want %#x", b.Live(), refs)
	}
	for k, ref := range refs {
		wantSize(t, b, ref, 1+k%api.MaxBlock)
		for i := range 1 + k%api.MaxBlock {
			wantLoad(t, b, ref, i, math.MaxUint64-uint64(1000*k+i))
		}
	}
}
