package prog

import "concord/api"

// takes is what the statements of a kind take; what they don't take is zero.
type takes struct {
	coll    bool
	ordered bool // the collection is an ordered one
	reg     bool
	a       bool
	b       bool
	times   bool // A is how often
	body    bool
	other   bool // Else
}

// taken is what the statements of a kind take, and whether that is a kind.
func taken(kind int) (takes, bool) {
	var t takes
	switch kind {
	case api.StRange:
		t.b = true
		fallthrough
	case api.StCeil:
		t.ordered = true
		fallthrough
	case api.StGet, api.StHas:
		t.a = true
		fallthrough
	case api.StSize:
		t.reg = true
		fallthrough
	case api.StList:
		t.coll = true
	case api.StPut:
		t.b = true
		fallthrough
	case api.StDel:
		t.coll, t.a = true, true
	case api.StAdd:
		t.b = true
		fallthrough
	case api.StSet:
		t.reg, t.a = true, true
	case api.StIf:
		t.a, t.b = true, true
		fallthrough
	case api.StOr:
		t.other = true
		fallthrough
	case api.StAtomic:
		t.body = true
	case api.StLoop:
		t.times, t.body = true, true
	case api.StRetry, api.StAbort:
	default:
		return t, false
	}
	return t, true
}

// check is what is wrong with a statement with that number that lies so deep; 0: nothing.
func check(n, deep int, s api.Stmt, kinds []int) api.Errno {
	switch {
	case n > api.MaxStmts:
		return api.ErrMany
	case deep > api.MaxNest:
		return api.ErrDeep
	case !right(s, kinds):
		return api.ErrForm
	}
	return 0
}

func right(s api.Stmt, kinds []int) bool {
	t, known := taken(s.Kind)
	return known &&
		t.collRight(s.Coll, kinds) &&
		t.regRight(s.Reg) &&
		t.aRight(s.A) &&
		argRight(t.b, s.B) &&
		(t.body || len(s.Body) == 0) &&
		(t.other || len(s.Else) == 0)
}

func (t takes) collRight(coll int, kinds []int) bool {
	if !t.coll {
		return coll == 0
	}
	return 0 <= coll && coll < len(kinds) && (!t.ordered || kinds[coll] == api.CollOrdered)
}

func (t takes) regRight(reg int) bool {
	if !t.reg {
		return reg == 0
	}
	return 1 <= reg && reg <= api.Regs
}

func (t takes) aRight(a api.Arg) bool {
	if t.times {
		return a.Reg == 0 && 0 <= a.N && a.N <= api.MaxTimes
	}
	return argRight(t.a, a)
}

// argRight tells whether an Arg may be, where one is taken, or where none is.
func argRight(taken bool, a api.Arg) bool {
	if !taken {
		return a == (api.Arg{})
	}
	return 0 <= a.Reg && a.Reg <= api.Regs && -api.MaxArg <= a.N && a.N <= api.MaxArg
}
