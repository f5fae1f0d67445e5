// Package words is layer 1: an arena of words: see shared/doc/01-words.md.
package words

import (
	"errors"

	"concord/api"
)

// Arena is words, and what was done with them: how many accesses, and the last one.
type Arena struct {
	words []uint64
	count int
	last  api.Access
}

// New makes an arena of n words.
func New(n int) (*Arena, error) {
	if n < 1 || n > api.MaxWords {
		return nil, api.ErrArg
	}
	return &Arena{words: make([]uint64, n)}, nil
}

// Load is the word i.
func (a *Arena) Load(i int) (uint64, error) {
	x, err := a.access(api.AccessLoad, i, 0, 0)
	return x.New, err
}

// Store makes the word i another one.
func (a *Arena) Store(i int, x uint64) error {
	_, err := a.access(api.AccessStore, i, 0, x)
	return err
}

// CAS makes the word i another one, if it is what is expected.
func (a *Arena) CAS(i int, old, next uint64) (bool, error) {
	x, err := a.access(api.AccessCAS, i, old, next)
	return x.Done, err
}

// Len is how many words there are.
func (a *Arena) Len() int {
	if a.none() {
		return 0
	}
	return len(a.words)
}

// Count is how many accesses there were.
func (a *Arena) Count() int {
	if a.none() {
		return 0
	}
	return a.count
}

// Last is the last access; false, if there was none.
func (a *Arena) Last() (api.Access, bool) {
	if a.none() || a.count == 0 {
		return api.Access{}, false
	}
	return a.last, true
}

// Words are all.
func (a *Arena) Words() []uint64 {
	if a.none() {
		return nil
	}
	all := make([]uint64, len(a.words))
	copy(all, a.words)
	return all
}

// Copy is another arena with the same words and accesses.
func (a *Arena) Copy() *Arena {
	if a.none() {
		return nil
	}
	return &Arena{words: a.Words(), count: a.count, last: a.last}
}

// access does an access of the word i, if it is not refused, and notes it.
func (a *Arena) access(kind, i int, old, next uint64) (api.Access, error) {
	if err := a.check(i); err != nil {
		return api.Access{}, err
	}
	was := a.words[i]
	x := api.Access{Kind: kind, At: i, Old: was, New: was, Done: true}
	switch kind {
	case api.AccessCAS:
		if was != old {
			x.Done = false
			break
		}
		fallthrough // a CAS that finds what it expects is a Store
	case api.AccessStore:
		a.words[i] = next
		x.New = next
	}
	a.count++
	a.last = x
	return x, nil
}

// check tells why an access of the word i is refused, if it is.
func (a *Arena) check(i int) error {
	if a == nil || len(a.words) == 0 { // New makes none without words
		return api.ErrNil
	}
	if i < 0 || i >= len(a.words) {
		return &api.Fault{At: i, Err: api.ErrRange}
	}
	return nil
}

// none tells whether no call made the arena: of every other one there is a word 0.
func (a *Arena) none() bool {
	return errors.Is(a.check(0), api.ErrNil)
}
