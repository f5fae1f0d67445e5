package meta_test

import (
	"testing"

	"concord/api"
	"concord/blocks"
)

const most = 8 // times that a call does its accesses, in all

// ahead does something ahead of those steps alone, each time with how often it did ahead.
func ahead(do func(k int), steps ...int) func(step int) {
	k := 0
	return func(step int) {
		if k < len(steps) && steps[k] == step {
			do(k)
			k++
		}
	}
}

// every is n steps from one on, each two behind the one ahead.
func every(first, n int) []int {
	var all []int
	for k := range n {
		all = append(all, first+2*k)
	}
	return all
}

// P6.2: as often as others come ahead of its CAS, Tick begins anew, with what is there then; at the eighth time it is a conflict.
func TestTickAnew(t *testing.T) {
	for misses := range most + 1 {
		b := open(t, 100)
		shows := []uint64{10, 11, 4, 900, 0, 1 << 40, 5, 6, 3}
		clock := lay(t, b, shows[0])
		var log []api.Entry
		for k := range min(misses+1, most) {
			log = append(log, loaded(clock, 0, shows[k]), swapped(clock, 0, shows[k]+1, k == misses))
		}
		between := ahead(func(k int) { put(t, b, clock, 0, shows[k+1]) }, every(1, misses)...)
		if misses == most {
			wantCame(t, b, tick(), clock, between, answer{}, api.ErrConflict, log)
			wantWords(t, b, clock, shows[most])
			continue
		}
		wantCame(t, b, tick(), clock, between, answer{n: int(shows[misses]) + 1}, 0, log)
		wantWords(t, b, clock, shows[misses]+1)
	}
}

// P6.3: as often as the word 0 is another one, Read begins anew, with that, which it does not load again; at the eighth time it is a conflict.
func TestReadAnew(t *testing.T) {
	firsts := []uint64{
		pack(5, 0, false, false),
		pack(6, 0, false, false), // another version
		pack(6, 0, false, true),  // somebody waits
		pack(6, 9, false, true),  // another owner
		pack(4, 9, false, true),
		pack(4, 9, false, true) + 4, // another word, with the same Meta
		pack(4, 0, false, false),
		pack(7, 0, false, false),
		pack(8, 0, false, false),
	}
	for misses := range most + 1 {
		b := open(t, 100)
		cell := lay(t, b, firsts[0], 100)
		log := entries(loaded(cell, 0, firsts[0]))
		for k := range min(misses+1, most) {
			behind := firsts[k+1]
			if k == misses {
				behind = firsts[k]
			}
			log = append(log, loaded(cell, 1, uint64(100+k)), loaded(cell, 0, behind))
		}
		between := ahead(func(k int) {
			put(t, b, cell, 0, firsts[k+1])
			put(t, b, cell, 1, uint64(101+k))
		}, every(2, misses)...)
		if misses == most {
			wantCame(t, b, read(), cell, between, answer{}, api.ErrConflict, log)
			continue
		}
		n := int(firsts[misses] >> 16)
		wantCame(t, b, read(), cell, between, answer{word: uint64(100 + misses), n: n}, 0, log)
	}
}

// P6.3: what it begins anew with may be locked: then it is a conflict at once.
func TestReadAnewOfLocked(t *testing.T) {
	for misses := 1; misses <= most; misses++ {
		b := open(t, 100)
		cell := lay(t, b, pack(0, 0, false, false), 7)
		log := entries(loaded(cell, 0, pack(0, 0, false, false)))
		for k := range misses {
			log = append(log, loaded(cell, 1, 7), loaded(cell, 0, pack(k+1, 0, k == misses-1, false)))
		}
		between := ahead(func(k int) { put(t, b, cell, 0, pack(k+1, 0, k == misses-1, false)) }, every(2, misses)...)
		wantCame(t, b, read(), cell, between, answer{}, api.ErrConflict, log)
	}
}

// P6.3: the value is the one that was there at its Load, and the word 0 counts as it is at its Loads alone.
func TestReadBetween(t *testing.T) {
	b := open(t, 100)
	first := pack(5, 0, false, false)
	cell := lay(t, b, first, 7)
	wantCame(t, b, read(), cell, func(step int) {
		switch step {
		case 1:
			put(t, b, cell, 1, 8)
			put(t, b, cell, 0, pack(5, 1, true, false))
		case 2:
			put(t, b, cell, 1, 9)
			put(t, b, cell, 0, first)
		}
	}, answer{word: 8, n: 5}, 0, entries(loaded(cell, 0, first), loaded(cell, 1, 8), loaded(cell, 0, first)))
}

// P6.4, P6.6: as often as others come ahead of its CAS, Lock and Await begin anew, with what is there then; at the eighth time it is a conflict.
func TestLockAndAwaitAnew(t *testing.T) {
	never := func(int) bool { return false }
	odd := func(k int) bool { return k%2 == 1 }
	lockedBy := func(owner int) func(api.Meta) uint64 {
		return func(m api.Meta) uint64 { return pack(5, owner, true, m.Waiting) }
	}
	for misses := range most + 1 {
		wantAnew(t, misses, lock(5, 3), lockedBy(3), odd)
		wantAnew(t, misses, lock(5, 0), lockedBy(0), never)
		wantAnew(t, misses, await(5), func(m api.Meta) uint64 { return pack(5, m.Owner, false, true) }, never)
	}
}

// wantAnew looks at a call that finds the version 5 each time, with another owner than ahead, and with somebody who waits, if waiting says so.
func wantAnew(t *testing.T, misses int, x call, turned func(m api.Meta) uint64, waiting func(k int) bool) {
	t.Helper()
	b := open(t, 100)
	is := func(k int) api.Meta { return api.Meta{Version: 5, Owner: 10 + k, Waiting: waiting(k)} }
	cell := lay(t, b, word(is(0)), 7)
	var log []api.Entry
	for k := range min(misses+1, most) {
		log = append(log, loaded(cell, 0, word(is(k))), swapped(cell, 0, turned(is(k)), k == misses))
	}
	between := ahead(func(k int) { put(t, b, cell, 0, word(is(k+1))) }, every(1, misses)...)
	if misses == most {
		wantCame(t, b, x, cell, between, answer{}, api.ErrConflict, log)
		wantWords(t, b, cell, word(is(most)), 7)
		return
	}
	wantCame(t, b, x, cell, between, answer{}, 0, log)
	wantWords(t, b, cell, turned(is(misses)), 7)
}

// P6.4, P6.6: what is there then is looked at as at first: it may be locked, or have another version.
func TestLockAndAwaitAnewOfOthers(t *testing.T) {
	free, owned := pack(5, 0, false, false), pack(5, 9, false, false)
	for _, x := range []struct {
		call
		turned uint64
	}{{lock(5, 3), pack(5, 3, true, false)}, {await(5), pack(5, 0, false, true)}} {
		for _, other := range []uint64{pack(5, 4, true, false), pack(5, 0, true, true), pack(6, 0, false, false), pack(4, 0, false, true), pack(6, 1, true, false)} {
			b := open(t, 100)
			cell := lay(t, b, free, 7)
			wantCame(t, b, x.call, cell, func(step int) {
				switch step {
				case 1:
					put(t, b, cell, 0, owned)
				case 2:
					put(t, b, cell, 0, other)
				}
			}, answer{}, api.ErrConflict, entries(loaded(cell, 0, free), swapped(cell, 0, x.turned, false), loaded(cell, 0, other)))
			wantWords(t, b, cell, other, 7)
		}
	}
}

// P6.6: where somebody else begins to wait ahead of the CAS, there is no other one.
func TestAwaitBehindAnother(t *testing.T) {
	b := open(t, 100)
	free, waits := pack(5, 0, false, false), pack(5, 0, false, true)
	cell := lay(t, b, free, 7)
	log := entries(loaded(cell, 0, free), swapped(cell, 0, waits, false), loaded(cell, 0, waits))
	wantCame(t, b, await(5), cell, ahead(func(int) { put(t, b, cell, 0, waits) }, 1), answer{}, 0, log)
	wantWords(t, b, cell, waits, 7)
}

// P6.4: where somebody begins to wait ahead of the CAS, that is kept.
func TestLockBehindAwait(t *testing.T) {
	b := open(t, 100)
	free, waits, locked := pack(5, 0, false, false), pack(5, 0, false, true), pack(5, 3, true, true)
	cell := lay(t, b, free, 7)
	log := entries(loaded(cell, 0, free), swapped(cell, 0, pack(5, 3, true, false), false), loaded(cell, 0, waits), swapped(cell, 0, locked, true))
	wantCame(t, b, lock(5, 3), cell, ahead(func(int) { alone(t, b, await(5), cell) }, 1), answer{}, 0, log)
	wantWords(t, b, cell, locked, 7)
}

// alone runs a call that can be done, and is alone.
func alone(t *testing.T, b *blocks.Blocks, x call, ref uint64) answer {
	t.Helper()
	got := run(t, b, x, ref, nobody)
	if got.err != nil {
		t.Fatalf("%s: %v", x.name, got.err)
	}
	return got.answer
}

// P6.2, P6.4, P6.6: what was another one, and is the same again at the CAS, does not count.
func TestSameAgain(t *testing.T) {
	for _, x := range []struct {
		call
		turned uint64
		want   answer
	}{
		{tick(), pack(5, 0, false, false) + 1, answer{n: 5<<16 + 1}},
		{lock(5, 3), pack(5, 3, true, false), answer{}},
		{await(5), pack(5, 0, false, true), answer{}},
	} {
		b := open(t, 100)
		first := pack(5, 0, false, false)
		cell := lay(t, b, first, 7)
		wantCame(t, b, x.call, cell, ahead(func(int) {
			put(t, b, cell, 0, 77)
			put(t, b, cell, 0, first)
		}, 1), x.want, 0, entries(loaded(cell, 0, first), swapped(cell, 0, x.turned, true)))
	}
}

// P6.5: what Commit and Release lay is told by their first Load alone.
func TestCommitAndReleaseLoadOnce(t *testing.T) {
	locked, other := pack(5, 3, true, true), pack(9, 4, false, false)
	b := open(t, 100)
	cell := lay(t, b, locked, 7)
	between := ahead(func(int) { put(t, b, cell, 0, other) }, 1)
	wantCame(t, b, commit(8, 6), cell, between, answer{yes: true}, 0, entries(loaded(cell, 0, locked), stored(cell, 1, 8), stored(cell, 0, pack(6, 0, false, false))))
	put(t, b, cell, 0, locked)
	between = ahead(func(int) { put(t, b, cell, 0, other) }, 1)
	wantCame(t, b, release(), cell, between, answer{}, 0, entries(loaded(cell, 0, locked), stored(cell, 0, pack(5, 0, false, true))))
}
