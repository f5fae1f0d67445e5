package words_test

import (
	"errors"
	"math"
	"slices"
	"testing"

	"concord/api"
	"concord/words"
)

// theErrors are all that an error may be: a test that one is told looks that no other one is.
func theErrors() []api.Errno {
	var all []api.Errno
	for e := api.ErrNil; e <= api.ErrKind; e++ {
		all = append(all, e)
	}
	return all
}

// wantErr looks that an error is that one, and no other one, and names no place.
func wantErr(t *testing.T, what string, got error, want api.Errno) {
	t.Helper()
	for _, e := range theErrors() {
		if errors.Is(got, e) != (e == want) {
			t.Errorf("%s: %v, want %v", what, got, want)
			return
		}
	}
	if api.Place(got) != 0 {
		t.Errorf("%s: %v names a place", what, got)
	}
}

// wantFault looks that an error is that one at that place.
func wantFault(t *testing.T, what string, got error, want api.Errno, at int) {
	t.Helper()
	var f *api.Fault
	if !errors.As(got, &f) || f == nil {
		t.Errorf("%s: %v is no Fault", what, got)
		return
	}
	if f.At != at || f.Err != want || api.Place(got) != at || !errors.Is(got, want) {
		t.Errorf("%s: %v, want %v at %d", what, got, want, at)
	}
}

func arena(t *testing.T, n int) *words.Arena {
	t.Helper()
	a, err := words.New(n)
	if err != nil || a == nil {
		t.Fatalf("New(%d) = %v, %v", n, a, err)
	}
	return a
}

func store(t *testing.T, a *words.Arena, i int, x uint64) {
	t.Helper()
	if err := a.Store(i, x); err != nil {
		t.Fatalf("Store(%d, %d): %v", i, x, err)
	}
}

func wantLoad(t *testing.T, a *words.Arena, i int, want uint64) {
	t.Helper()
	if x, err := a.Load(i); x != want || err != nil {
		t.Errorf("Load(%d) = %d, %v, want %d", i, x, err, want)
	}
}

func wantCAS(t *testing.T, a *words.Arena, i int, old, next uint64, want bool) {
	t.Helper()
	if done, err := a.CAS(i, old, next); done != want || err != nil {
		t.Errorf("CAS(%d, %d, %d) = %v, %v, want %v", i, old, next, done, err, want)
	}
}

func wantLast(t *testing.T, a *words.Arena, want api.Access) {
	t.Helper()
	if x, ok := a.Last(); x != want || !ok {
		t.Errorf("Last = %+v, %v, want %+v", x, ok, want)
	}
}

// wantNone looks that there was no access.
func wantNone(t *testing.T, a *words.Arena) {
	t.Helper()
	if n := a.Count(); n != 0 {
		t.Errorf("Count = %d, want 0", n)
	}
	if x, ok := a.Last(); ok || x != (api.Access{}) {
		t.Errorf("Last = %+v, %v, want none", x, ok)
	}
}

// wantWords looks what all looks tell of the words.
func wantWords(t *testing.T, a *words.Arena, want ...uint64) {
	t.Helper()
	if all := a.Words(); !slices.Equal(all, want) || a.Len() != len(want) {
		t.Errorf("Words = %v, Len = %d, want %v", all, a.Len(), want)
	}
}

// P1.1: a number of words that may not be.
func TestNewRefuses(t *testing.T) {
	for _, n := range []int{0, -1, -7, math.MinInt, api.MaxWords + 1, api.MaxWords + 100, math.MaxInt} {
		a, err := words.New(n)
		if a != nil {
			t.Errorf("New(%d) is an arena", n)
		}
		wantErr(t, "New", err, api.ErrArg)
	}
}

// P1.1: so many words, all 0, and no access.
func TestNewMakes(t *testing.T) {
	for _, n := range []int{1, 2, 8, 1000, api.MaxWords - 1, api.MaxWords} {
		a := arena(t, n)
		wantWords(t, a, make([]uint64, n)...)
		wantNone(t, a)
		wantLoad(t, a, n-1, 0)
	}
}

// P1.1, rule 6: what is done with one arena changes no other one.
func TestArenasAreApart(t *testing.T) {
	a := arena(t, 2)
	store(t, a, 0, 5)
	b := arena(t, 2)
	store(t, a, 1, 6)
	wantWords(t, b, 0, 0)
	wantNone(t, b)
	store(t, b, 0, 9)
	wantWords(t, a, 5, 6)
}

// P1.2, P1.4: a Load tells what was stored last, of that word and of no other one.
func TestLoadAndStore(t *testing.T) {
	a := arena(t, 3)
	store(t, a, 0, 7)
	store(t, a, 2, math.MaxUint64)
	wantWords(t, a, 7, 0, math.MaxUint64)
	store(t, a, 0, 1<<63)
	wantLoad(t, a, 0, 1<<63)
	wantLoad(t, a, 0, 1<<63)
	wantLoad(t, a, 1, 0)
	wantLoad(t, a, 2, math.MaxUint64)
	store(t, a, 2, 0)
	wantLoad(t, a, 2, 0)
	wantWords(t, a, 1<<63, 0, 0)
}

// P1.2, P1.5: a CAS is done just if the word is what is expected.
func TestCAS(t *testing.T) {
	a := arena(t, 2)
	wantCAS(t, a, 1, 1, 2, false)
	wantWords(t, a, 0, 0)
	wantCAS(t, a, 1, 0, math.MaxUint64, true)
	wantWords(t, a, 0, math.MaxUint64)
	wantCAS(t, a, 1, 1<<32-1, 3, false) // the lower half alone is not the word
	wantCAS(t, a, 1, math.MaxUint64-1, 3, false)
	wantWords(t, a, 0, math.MaxUint64)
	wantCAS(t, a, 1, math.MaxUint64, 3, true)
	wantLoad(t, a, 1, 3)
	wantCAS(t, a, 0, 0, 0, true)
	wantWords(t, a, 0, 3)
}

// P1.5: of two with the same old, the second one is done just if the first one left the word as it was expected.
func TestTwoCAS(t *testing.T) {
	a := arena(t, 1)
	wantCAS(t, a, 0, 0, 4, true)
	wantCAS(t, a, 0, 0, 5, false)
	wantLoad(t, a, 0, 4)
	wantCAS(t, a, 0, 4, 4, true)
	wantCAS(t, a, 0, 4, 6, true)
	wantLoad(t, a, 0, 6)
}

// P1.2: no word is at such a place. P1.6, P2: what is refused changes nothing.
func TestNoSuchWord(t *testing.T) {
	a := arena(t, 3)
	for _, i := range []int{-1, -3, 3, 4, api.MaxWords, math.MinInt, math.MaxInt, 1 << 32} {
		wantRefused(t, a, i)
	}
	wantNone(t, a)
	store(t, a, 0, 1)
	store(t, a, 2, 3)
	last := api.Access{Kind: api.AccessStore, At: 2, New: 3, Done: true}
	for _, i := range []int{-1, 3, math.MinInt, math.MaxInt} {
		wantRefused(t, a, i)
		wantWords(t, a, 1, 0, 3)
		wantLast(t, a, last)
		if a.Count() != 2 {
			t.Errorf("Count = %d, want 2", a.Count())
		}
	}
	whole := arena(t, api.MaxWords)
	wantRefused(t, whole, api.MaxWords)
	wantNone(t, whole)
	store(t, whole, api.MaxWords-1, 8)
	wantLoad(t, whole, api.MaxWords-1, 8)
}

// wantRefused looks that no access of a place is done.
func wantRefused(t *testing.T, a *words.Arena, i int) {
	t.Helper()
	x, err := a.Load(i)
	if x != 0 {
		t.Errorf("Load(%d) = %d with an error", i, x)
	}
	wantFault(t, "Load", err, api.ErrRange, i)
	wantFault(t, "Store", a.Store(i, 9), api.ErrRange, i)
	done, err := a.CAS(i, 0, 9)
	if done {
		t.Errorf("CAS(%d) is done with an error", i)
	}
	wantFault(t, "CAS", err, api.ErrRange, i)
}

// P1.2, P1.3, rules 1 and 4: of nil, ErrNil ahead of all else, and nothing.
func TestNil(t *testing.T) {
	var a *words.Arena
	for _, i := range []int{0, 1, -1, math.MaxInt} {
		x, err := a.Load(i)
		wantErr(t, "Load", err, api.ErrNil)
		wantErr(t, "Store", a.Store(i, 1), api.ErrNil)
		done, err := a.CAS(i, 0, 1)
		wantErr(t, "CAS", err, api.ErrNil)
		if x != 0 || done {
			t.Errorf("of nil: Load(%d) = %d, CAS: %v", i, x, done)
		}
	}
	wantWords(t, a)
	wantNone(t, a)
	if a.Copy() != nil {
		t.Error("Copy of nil is an arena")
	}
}

// P1, rule 4: of an arena that New did not make nothing is told, and nothing panics.
func TestArenaThatNoCallMade(t *testing.T) {
	var a words.Arena
	x, errLoad := a.Load(0)
	done, errCAS := a.CAS(0, 0, 1)
	if x != 0 || done || errLoad == nil || errCAS == nil || a.Store(0, 1) == nil {
		t.Errorf("an access of no arena: %d, %v, %v, %v", x, done, errLoad, errCAS)
	}
	wantWords(t, &a)
	wantNone(t, &a)
	if c := a.Copy(); c.Len() != 0 {
		t.Errorf("its Copy has %d words", c.Len())
	}
}

// P1.3: Count and Last tell of each access what it was.
func TestLast(t *testing.T) {
	a := arena(t, 3)
	steps := []struct {
		do   func()
		want api.Access
	}{
		{func() { wantLoad(t, a, 2, 0) }, api.Access{Kind: api.AccessLoad, At: 2, Done: true}},
		{func() { store(t, a, 1, 7) }, api.Access{Kind: api.AccessStore, At: 1, Old: 0, New: 7, Done: true}},
		{func() { store(t, a, 1, 7) }, api.Access{Kind: api.AccessStore, At: 1, Old: 7, New: 7, Done: true}},
		{func() { wantLoad(t, a, 1, 7) }, api.Access{Kind: api.AccessLoad, At: 1, Old: 7, New: 7, Done: true}},
		{func() { store(t, a, 1, 0) }, api.Access{Kind: api.AccessStore, At: 1, Old: 7, New: 0, Done: true}},
		{func() { wantCAS(t, a, 1, 7, 8, false) }, api.Access{Kind: api.AccessCAS, At: 1}},
		{func() { wantCAS(t, a, 1, 0, 9, true) }, api.Access{Kind: api.AccessCAS, At: 1, Old: 0, New: 9, Done: true}},
		{func() { wantCAS(t, a, 1, 0, 3, false) }, api.Access{Kind: api.AccessCAS, At: 1, Old: 9, New: 9}},
		{func() { wantCAS(t, a, 1, 9, 9, true) }, api.Access{Kind: api.AccessCAS, At: 1, Old: 9, New: 9, Done: true}},
		{func() { wantLoad(t, a, 0, 0) }, api.Access{Kind: api.AccessLoad, At: 0, Done: true}},
	}
	for n, s := range steps {
		s.do()
		wantLast(t, a, s.want)
		if a.Count() != n+1 {
			t.Errorf("step %d: Count = %d, want %d", n, a.Count(), n+1)
		}
	}
}

// P1.3: none of the looks is an access, nor changes a word.
func TestLooksAreNoAccesses(t *testing.T) {
	a := arena(t, 2)
	for range 3 {
		look(a)
		wantNone(t, a)
	}
	store(t, a, 1, 4)
	look(a)
	if a.Count() != 1 {
		t.Errorf("Count = %d, want 1", a.Count())
	}
	wantLast(t, a, api.Access{Kind: api.AccessStore, At: 1, New: 4, Done: true})
	wantWords(t, a, 0, 4)
}

func look(a *words.Arena) {
	a.Len()
	a.Count()
	a.Last()
	a.Words()
	a.Copy()
}

// P1.3, rule 3: what Words tells is the caller's own.
func TestWordsAreTheCallers(t *testing.T) {
	a := arena(t, 2)
	store(t, a, 0, 5)
	all := a.Words()
	all[0], all[1] = 8, 9
	wantWords(t, a, 5, 0)
	all = a.Words()
	store(t, a, 1, 6)
	if !slices.Equal(all, []uint64{5, 0}) {
		t.Errorf("what was told before a Store is %v now", all)
	}
}

// P1.3: a copy has the same, and is apart from then on.
func TestCopy(t *testing.T) {
	a := arena(t, 2)
	store(t, a, 0, 5)
	store(t, a, 1, 6)
	b := a.Copy()
	if b == a {
		t.Fatal("Copy is no other arena")
	}
	last := api.Access{Kind: api.AccessStore, At: 1, New: 6, Done: true}
	wantWords(t, b, 5, 6)
	wantLast(t, b, last)
	if b.Count() != 2 {
		t.Errorf("Count of the copy = %d, want 2", b.Count())
	}
	wantCAS(t, b, 0, 5, 7, true)
	store(t, b, 1, 8)
	wantWords(t, a, 5, 6)
	wantLast(t, a, last)
	wantLoad(t, a, 0, 5)
	wantWords(t, b, 7, 8)
	wantLast(t, b, api.Access{Kind: api.AccessStore, At: 1, Old: 6, New: 8, Done: true})
	if a.Count() != 3 || b.Count() != 4 {
		t.Errorf("Counts = %d and %d, want 3 and 4", a.Count(), b.Count())
	}
	fresh := arena(t, 3).Copy()
	wantWords(t, fresh, 0, 0, 0)
	wantNone(t, fresh)
}

// The chapter's example.
func TestExample(t *testing.T) {
	a := arena(t, 2)
	store(t, a, 1, 7)
	wantCAS(t, a, 1, 7, 8, true)
	wantCAS(t, a, 1, 7, 9, false)
	wantLoad(t, a, 1, 8)
	if a.Count() != 4 {
		t.Errorf("Count = %d, want 4", a.Count())
	}
}

// draws are numbers that look random, and are the same each time.
func draws(seed uint64) func(below uint64) uint64 {
	return func(below uint64) uint64 {
		seed = seed*6364136223846793005 + 1442695040888963407
		return seed >> 33 % below
	}
}

// P1.2, P1.4, P1.5, P1.6, P2: any run of accesses does what it does to a plain list.
func TestRunsOfAccesses(t *testing.T) {
	for seed := range uint64(20) {
		draw := draws(seed)
		n := 1 + int(draw(6))
		a, plain, count := arena(t, n), make([]uint64, n), 0
		for range 400 {
			i, x, old := int(draw(uint64(n)+2))-1, draw(3), draw(3)
			if i < 0 || i >= n {
				wantRefused(t, a, i)
			} else {
				count++
				doBoth(t, a, plain, draw(3), i, old, x)
			}
			wantWords(t, a, plain...)
			if a.Count() != count {
				t.Fatalf("Count = %d, want %d", a.Count(), count)
			}
		}
	}
}

// doBoth does an access of an arena and of a plain list, and looks that they agree.
func doBoth(t *testing.T, a *words.Arena, plain []uint64, kind uint64, i int, old, x uint64) {
	t.Helper()
	want := api.Access{At: i, Old: plain[i], New: plain[i], Done: true}
	switch kind {
	case 0:
		want.Kind = api.AccessLoad
		wantLoad(t, a, i, plain[i])
	case 1:
		want.Kind, want.New = api.AccessStore, x
		store(t, a, i, x)
	default:
		want.Kind, want.Done = api.AccessCAS, plain[i] == old
		if want.Done {
			want.New = x
		}
		wantCAS(t, a, i, old, x, want.Done)
	}
	plain[i] = want.New
	wantLast(t, a, want)
}
