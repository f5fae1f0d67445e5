package eval

import (
	"errors"

	"concord/api"
	"concord/model"
)

// moment is what a transaction has come to, as far as it can be undone.
type moment struct {
	state *model.State
	regs  [api.Regs]int
	told  []int
}

// copied is another moment with the same, that stays as it is.
func (m moment) copied() moment {
	told := make([]int, len(m.told))
	copy(told, m.told)
	return moment{m.state.Copy(), m.regs, told}
}

// run is a transaction that is being done. Its steps are never undone.
type run struct {
	moment
	steps int
}

// stop goes up from a statement behind which the next one is not done.
type stop struct{ why api.Errno }

// Error is its text.
func (s stop) Error() string { return "the statement goes no further: " + s.why.Error() }

// Unwrap is the error that it wraps.
func (s stop) Unwrap() error { return s.why }

// all does statements, one behind the other, up to the first one that stops.
func (r *run) all(p []api.Stmt) error {
	for _, s := range p {
		if r.steps == api.MaxEval {
			return stop{api.ErrCapped}
		}
		r.steps++
		if err := r.one(s); err != nil {
			return err
		}
	}
	return nil
}

// one does a statement. It is right: what its kind does not take is zero.
func (r *run) one(s api.Stmt) error {
	switch s.Kind {
	case api.StGet, api.StHas, api.StSize, api.StCeil, api.StRange:
		return r.ask(s)
	case api.StPut:
		return r.state.Put(s.Coll, r.key(s.A), value(r.arg(s.B)))
	case api.StDel:
		return r.state.Del(s.Coll, r.key(s.A))
	case api.StList:
		return r.list(s.Coll)
	case api.StSet, api.StAdd:
		r.regs[s.Reg-1] = value(r.arg(s.A) + r.arg(s.B))
	case api.StIf:
		if value(r.arg(s.A)) < value(r.arg(s.B)) {
			return r.all(s.Body)
		}
		return r.all(s.Else)
	case api.StLoop:
		return r.loop(s.A.N, s.Body)
	case api.StAtomic:
		return r.atomic(s.Body)
	case api.StOr:
		return r.or(s.Body, s.Else)
	case api.StRetry:
		return stop{api.ErrRetry}
	case api.StAbort:
		return stop{api.ErrAbort}
	}
	return nil
}

// loop does statements so often.
func (r *run) loop(times int, body []api.Stmt) error {
	for range times {
		if err := r.all(body); err != nil {
			return err
		}
	}
	return nil
}

// atomic does statements. An abort undoes what they did to collections, and nothing else.
func (r *run) atomic(body []api.Stmt) error {
	was := r.state.Copy()
	err := r.all(body)
	if errors.Is(err, api.ErrAbort) {
		r.state = was
		return nil
	}
	return err
}

// or does statements, or, if a retry comes in them, others, as if those had never begun.
func (r *run) or(body, other []api.Stmt) error {
	was := r.copied()
	err := r.all(body)
	if errors.Is(err, api.ErrRetry) {
		r.moment = was
		return r.all(other)
	}
	return err
}

// ask puts what a collection answers into a register, and tells it.
func (r *run) ask(s api.Stmt) error {
	n, err := r.answer(s)
	if err != nil {
		return err
	}
	r.regs[s.Reg-1] = n
	r.told = append(r.told, n)
	return nil
}

// answer is what a collection answers.
func (r *run) answer(s api.Stmt) (int, error) {
	switch s.Kind {
	case api.StGet:
		v, there, err := r.state.Get(s.Coll, r.key(s.A))
		return orNone(v, there), err
	case api.StHas:
		_, there, err := r.state.Get(s.Coll, r.key(s.A))
		if there {
			return 1, err
		}
		return 0, err
	case api.StCeil:
		key, there, err := r.state.Ceil(s.Coll, r.key(s.A))
		return orNone(key, there), err
	case api.StRange:
		return r.state.Range(s.Coll, r.key(s.A), r.key(s.B))
	}
	return r.state.Size(s.Coll)
}

// list tells all that a collection has.
func (r *run) list(coll int) error {
	all, err := r.state.List(coll)
	if err != nil {
		return err
	}
	r.told = append(r.told, len(all))
	for _, x := range all {
		r.told = append(r.told, x.Key, x.Value)
	}
	return nil
}

// arg is what an Arg is. Beyond what an int holds it goes round, as the words do.
func (r *run) arg(a api.Arg) int {
	if a.Reg == 0 {
		return a.N
	}
	return r.regs[a.Reg-1] + a.N
}

// key is what an Arg is, taken as a key.
func (r *run) key(a api.Arg) int { return modulo(r.arg(a), api.KeySpan) }

// value is a number, taken as a value.
func value(n int) int { return modulo(n, api.Values) }

// modulo is what is left of a number, from 0 on.
func modulo(n, span int) int {
	n %= span
	if n < 0 {
		n += span
	}
	return n
}

// orNone is a number, or what is told if there is none.
func orNone(n int, there bool) int {
	if there {
		return n
	}
	return -1
}
