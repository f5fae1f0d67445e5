package text_test

import (
	"errors"
	"reflect"
	"slices"
	"strconv"
	"strings"
	"testing"

	"concord/api"
	"concord/text"
)

// wantErr looks that an error is that one, names no place, and is no other one.
func wantErr(t *testing.T, what string, got error, want api.Errno) {
	t.Helper()
	var f *api.Fault
	if !errors.Is(got, want) || errors.As(got, &f) || api.Place(got) != 0 {
		t.Errorf("%s: %v, want %v without a place", what, got, want)
	}
}

// wantFault looks that an error is that one, and no other one, at that place.
func wantFault(t *testing.T, what string, got error, want api.Errno, place int) {
	t.Helper()
	var f *api.Fault
	if !errors.As(got, &f) || f == nil {
		t.Errorf("%s: %v, want %v at %d", what, got, want, place)
		return
	}
	if f.At != place || f.Err != want || api.Place(got) != place || !errors.Is(got, want) {
		t.Errorf("%s: %v, want %v at %d", what, got, want, place)
	}
}

// same tells whether two transactions are the same, whether lists without members are nil or empty.
func same(p, q []api.Stmt) bool {
	return slices.EqualFunc(p, q, func(x, y api.Stmt) bool {
		inner := same(x.Body, y.Body) && same(x.Else, y.Else)
		x.Body, x.Else, y.Body, y.Else = nil, nil, nil, nil
		return inner && reflect.DeepEqual(x, y)
	})
}

// wantRead looks that a text is that transaction.
func wantRead(t *testing.T, s string, want []api.Stmt) {
	t.Helper()
	if got, err := text.Parse(s); err != nil || !same(got, want) {
		t.Errorf("Parse(%q) = %v, %v, want %v", s, got, err, want)
	}
}

// wantPrinted looks that a transaction's text is that.
func wantPrinted(t *testing.T, p []api.Stmt, want string) {
	t.Helper()
	if got, err := text.Print(p); err != nil || got != want {
		t.Errorf("Print(%v) = %q, %v, want %q", p, got, err, want)
	}
}

// wantBoth looks that a transaction has that text, and is read from it.
func wantBoth(t *testing.T, p []api.Stmt, s string) {
	t.Helper()
	wantPrinted(t, p, s)
	wantRead(t, s, p)
}

// wantWrong looks that a text can't be read, and which line is the first that can't stand there.
func wantWrong(t *testing.T, s string, line int) {
	t.Helper()
	p, err := text.Parse(s)
	wantFault(t, "Parse of "+strconv.Quote(s), err, api.ErrForm, line)
	if len(p) > 0 {
		t.Errorf("Parse(%q) = %v beside an error", s, p)
	}
}

// wantUnprinted looks that a transaction has no text, and why.
func wantUnprinted(t *testing.T, p []api.Stmt, want api.Errno, place int) {
	t.Helper()
	s, err := text.Print(p)
	wantFault(t, "Print", err, want, place)
	if s != "" {
		t.Errorf("Print = %q beside an error", s)
	}
}

func list(p ...api.Stmt) []api.Stmt { return p }

func retry() api.Stmt { return api.Stmt{Kind: api.StRetry} }

func abort() api.Stmt { return api.Stmt{Kind: api.StAbort} }

func atomic(body ...api.Stmt) api.Stmt { return api.Stmt{Kind: api.StAtomic, Body: body} }

func loop(n int, body ...api.Stmt) api.Stmt {
	return api.Stmt{Kind: api.StLoop, A: number(n), Body: body}
}

func either(body, other []api.Stmt) api.Stmt {
	return api.Stmt{Kind: api.StOr, Body: body, Else: other}
}

func below(a, b api.Arg, body, other []api.Stmt) api.Stmt {
	return api.Stmt{Kind: api.StIf, A: a, B: b, Body: body, Else: other}
}

func number(n int) api.Arg { return api.Arg{N: n} }

func reg(r, n int) api.Arg { return api.Arg{Reg: r, N: n} }

// The chapter's example.
func TestExample(t *testing.T) {
	wantBoth(t, list(
		api.Stmt{Kind: api.StPut, A: reg(1, 1), B: number(-3)},
		below(reg(1, 0), number(2), list(retry()), nil),
	), "put 0 r1+1 -3\nif r1 2 {\n  retry\n}\n")
}

// P10.1, P10.2: a transaction without statements has no lines.
func TestEmpty(t *testing.T) {
	wantBoth(t, nil, "")
	wantPrinted(t, []api.Stmt{}, "")
}

// P10.1, P10.2, Words: a line of each kind, its words in their places.
func TestKinds(t *testing.T) {
	a, b := reg(2, 5), reg(3, -999)
	for _, x := range []struct {
		s    api.Stmt
		want string
	}{
		{api.Stmt{Kind: api.StGet, Coll: 4, Reg: 1, A: a}, "get 4 r2+5 r1\n"},
		{api.Stmt{Kind: api.StPut, Coll: 7, A: a, B: b}, "put 7 r2+5 r3-999\n"},
		{api.Stmt{Kind: api.StDel, Coll: 1, A: a}, "del 1 r2+5\n"},
		{api.Stmt{Kind: api.StHas, Coll: 2, Reg: 8, A: a}, "has 2 r2+5 r8\n"},
		{api.Stmt{Kind: api.StSize, Coll: 3, Reg: 7}, "size 3 r7\n"},
		{api.Stmt{Kind: api.StCeil, Coll: 5, Reg: 6, A: a}, "ceil 5 r2+5 r6\n"},
		{api.Stmt{Kind: api.StRange, Coll: 6, Reg: 5, A: a, B: b}, "range 6 r2+5 r3-999 r5\n"},
		{api.Stmt{Kind: api.StList, Coll: 7}, "list 7\n"},
		{api.Stmt{Kind: api.StSet, Reg: 4, A: a}, "set r4 r2+5\n"},
		{api.Stmt{Kind: api.StAdd, Reg: 4, A: a, B: b}, "add r4 r2+5 r3-999\n"},
		{below(a, b, nil, nil), "if r2+5 r3-999 {\n}\n"},
		{loop(5), "loop 5 {\n}\n"},
		{loop(0), "loop 0 {\n}\n"},
		{atomic(), "atomic {\n}\n"},
		{either(nil, nil), "or {\n}\n"},
		{retry(), "retry\n"},
		{abort(), "abort\n"},
	} {
		wantBoth(t, list(x.s), x.want)
		wantBoth(t, list(x.s, retry(), x.s), x.want+"retry\n"+x.want)
	}
}

// P10.1, P10.2, Words: an Arg's text, of all that may be.
func TestArgs(t *testing.T) {
	for n := -999; n <= 999; n++ {
		for r := range 9 {
			want := strconv.Itoa(n)
			switch {
			case r > 0 && n == 0:
				want = "r" + strconv.Itoa(r)
			case r > 0 && n > 0:
				want = "r" + strconv.Itoa(r) + "+" + want
			case r > 0:
				want = "r" + strconv.Itoa(r) + want
			}
			wantBoth(t, list(api.Stmt{Kind: api.StPut, A: reg(r, n), B: number(1)}), "put 0 "+want+" 1\n")
		}
	}
}

// P10.1, P10.2, Words: two blanks ahead for each statement in which one lies; an Else that is empty has no line.
func TestBlocks(t *testing.T) {
	in, out := list(retry()), list(abort())
	ifs := func(body, other []api.Stmt) api.Stmt { return below(number(1), number(2), body, other) }
	wantBoth(t, list(either(in, nil)), "or {\n  retry\n}\n")
	wantBoth(t, list(either(in, out)), "or {\n  retry\n} else {\n  abort\n}\n")
	wantBoth(t, list(either(nil, out)), "or {\n} else {\n  abort\n}\n")
	wantBoth(t, list(ifs(in, out)), "if 1 2 {\n  retry\n} else {\n  abort\n}\n")
	wantBoth(t, list(ifs(nil, out)), "if 1 2 {\n} else {\n  abort\n}\n")
	wantBoth(t, list(atomic(retry(), abort()), abort()), "atomic {\n  retry\n  abort\n}\nabort\n")
	wantBoth(t, list(loop(2, atomic(either(in, list(ifs(out, in), retry()))), retry()), abort()),
		"loop 2 {\n  atomic {\n    or {\n      retry\n    } else {\n      if 1 2 {\n        abort\n      } else {\n        retry\n      }\n      retry\n    }\n  }\n  retry\n}\nabort\n")
	wantPrinted(t, list(api.Stmt{Kind: api.StOr, Body: []api.Stmt{}, Else: []api.Stmt{}}), "or {\n}\n")
}

// P10.1: what prog.Right tells, with eight collections that are ordered.
func TestPrintRefuses(t *testing.T) {
	for coll := range api.MaxColls {
		text := strconv.Itoa(coll)
		wantBoth(t, list(api.Stmt{Kind: api.StCeil, Coll: coll, Reg: 1}), "ceil "+text+" 0 r1\n")
		wantBoth(t, list(api.Stmt{Kind: api.StRange, Coll: coll, Reg: 1}), "range "+text+" 0 0 r1\n")
		wantBoth(t, list(api.Stmt{Kind: api.StList, Coll: coll}), "list "+text+"\n")
	}
	for _, s := range []api.Stmt{
		{},
		{Kind: -1},
		{Kind: 17},
		{Kind: api.StList, Coll: 8},
		{Kind: api.StList, Coll: -1},
		{Kind: api.StGet, Reg: 9},
		{Kind: api.StGet},
		{Kind: api.StPut, A: number(1000)},
		{Kind: api.StPut, B: reg(9, 0)},
		{Kind: api.StPut, Reg: 1},
		{Kind: api.StLoop, A: number(6)},
		{Kind: api.StLoop, A: reg(1, 0)},
		{Kind: api.StRetry, Body: list(retry())},
		{Kind: api.StAtomic, Else: list(retry())},
	} {
		wantUnprinted(t, list(s), api.ErrForm, 1)
		wantUnprinted(t, list(retry(), atomic(retry(), s), s), api.ErrForm, 4)
	}
	wantUnprinted(t, slices.Repeat(list(retry()), 101), api.ErrMany, 101)
	wantPrinted(t, slices.Repeat(list(retry()), 100), strings.Repeat("retry\n", 100))
	s := retry()
	for range 7 {
		s = atomic(s)
	}
	wantPrinted(t, list(s), nested(7))
	wantUnprinted(t, list(atomic(s)), api.ErrDeep, 9)
}

// nested is a retry within so many atomics.
func nested(n int) string {
	b := ""
	for i := range n {
		b += strings.Repeat("  ", i) + "atomic {\n"
	}
	b += strings.Repeat("  ", n) + "retry\n"
	for i := range n {
		b += strings.Repeat("  ", n-1-i) + "}\n"
	}
	return b
}

// P10.1: a statement that lies within itself is too deep.
func TestEndless(t *testing.T) {
	p := list(atomic())
	p[0].Body = p
	wantUnprinted(t, p, api.ErrDeep, 9)
	p = list(either(nil, nil))
	p[0].Else = p
	wantUnprinted(t, p, api.ErrDeep, 9)
}

// P10.2: what is read need not be right: as many statements as there are, as deep as they like, and numbers of four digits.
func TestNotRight(t *testing.T) {
	wantRead(t, strings.Repeat("retry\n", 3333), slices.Repeat(list(retry()), 3333))
	wantUnprinted(t, slices.Repeat(list(retry()), 3333), api.ErrMany, 101)
	wantRead(t, "list 9999", list(api.Stmt{Kind: api.StList, Coll: 9999}))
	wantRead(t, "loop 9999 {\n}", list(loop(9999)))
	wantRead(t, "put 8 9999 r8-9999", list(api.Stmt{Kind: api.StPut, Coll: 8, A: number(9999), B: reg(8, -9999)}))
	wantRead(t, "range 8 -9999 r1+9999 r1", list(api.Stmt{Kind: api.StRange, Coll: 8, Reg: 1, A: number(-9999), B: reg(1, 9999)}))
	deep := api.MaxText / 7
	p, err := text.Parse(strings.Repeat("or {\n", deep) + strings.Repeat("}\n", deep))
	if err != nil {
		t.Fatal(err)
	}
	for i := range deep {
		if len(p) != 1 || p[0].Kind != api.StOr || len(p[0].Else) > 0 {
			t.Fatalf("%d deep: %v, want one or", i+1, p)
		}
		p = p[0].Body
	}
	if len(p) > 0 {
		t.Errorf("%v within the last one, want nothing", p)
	}
}

// P10.2: as many bytes as may be, and one more, which is told ahead of lines that can't stand there.
func TestMaxText(t *testing.T) {
	full := "retry\n" + strings.Repeat(" ", api.MaxText-7) + "\n"
	if len(full) != api.MaxText {
		t.Fatal(len(full))
	}
	wantRead(t, full, list(retry()))
	wantWrong(t, strings.Repeat("x", api.MaxText), 1)
	for _, s := range []string{full + "\n", full + " ", strings.Repeat("x", api.MaxText+1), strings.Repeat("\n", 10*api.MaxText)} {
		p, err := text.Parse(s)
		wantErr(t, "Parse of a long text", err, api.ErrMany)
		if len(p) > 0 {
			t.Errorf("Parse = %v beside an error", p)
		}
	}
}

// P10.2: lines that are none, with the number of the first one.
func TestLinesThatAreNone(t *testing.T) {
	for _, line := range []string{
		"x", "Retry", "RETRY", "retr", "retry;", "retry retry", "retry {", "abort 0",
		"get", "get 0", "get 0 1", "get 0 1 2", "get 0 1 r1 r1", "get r1 1 r1", "get -1 1 r1", "get 0 1 r1+1", "get 0 r1 0",
		"put", "put 0", "put 0 1", "put 0 1 1 1", "put 0 1 r", "put r1 1 1", "put 0,1,1",
		"del", "del 0", "del 0 1 1", "del 0 r1 r1",
		"has 0 1", "has 0 1 1", "has 0 r1 r1 r1",
		"size 0", "size 0 0", "size r1 r1", "size 0 r1 r1",
		"ceil 0 1", "ceil 0 1 1", "ceil 0 1 1 r1",
		"range 0 1 r1", "range 0 1 1", "range 0 1 1 1", "range 0 1 1 r1 r1",
		"list", "list r1", "list 0 0", "list -1",
		"set", "set r1", "set 1 1", "set r1 1 1", "set r1+1 1",
		"add r1 1", "add 1 1 1", "add r1 1 1 1",
		"if", "if 1 2", "if 1 {", "if 1 2 3 {", "if 1 2 { retry }", "if 1 2 }", "if 1 2{", "if {",
		"loop {", "loop 1", "loop r1 {", "loop -1 {", "loop 1 1 {", "loop 1{",
		"atomic", "atomic{", "atomic 1 {", "atomic { }", "or", "or { {", "or else {",
		"{", "else", "else {", "} else", "}else{", "} else{", "} or {", "}}", "} }", "} else { }", "} else { {", "; retry", "retry # why",
		"A", "B", "C", "N", "R", "get C A R", "loop N {", "list C", "set R A", "if A B {",
		"\tretry", "retry\t", "retry\r", "\t", "\r", "\x00", "\xff", "retry\x00", "rétry", "\u00a0", "get\t0\t1\tr1", "put 0 ١ 1",
	} {
		wantWrong(t, line, 1)
		wantWrong(t, "  "+line+"  \n", 1)
		wantWrong(t, "retry\n\n"+line+"\nx\n", 3)
		wantWrong(t, "or {\nretry\n"+line+"\n}\n", 3)
	}
}

// P10.2: which blocks end how, and where a text's end can't stand.
func TestEnds(t *testing.T) {
	for _, open := range []string{"or {\n", "if 1 2 {\n"} {
		wantWrong(t, open, 2)
		wantWrong(t, strings.TrimSuffix(open, "\n"), 2)
		wantWrong(t, open+"\n", 3)
		wantWrong(t, open+" ", 3)
		wantWrong(t, open+"\n ", 4)
		wantWrong(t, open+"retry\n\n\n", 5)
		wantWrong(t, open+"} else {", 3)
		wantWrong(t, open+"} else {\nretry\n} else {\n}\n", 4)
		wantWrong(t, open+"} else {\n} else {\n}\n", 3)
		wantWrong(t, open+"}\n} else {\n}\n", 3)
		wantWrong(t, open+"} else {\n}\n}\n", 4)
		wantWrong(t, open+open+"}\n", 4)
		wantWrong(t, open+"x\n", 2)
		wantWrong(t, open+"} else {\nx\n", 3)
	}
	for _, open := range []string{"atomic {\n", "loop 1 {\n"} {
		wantWrong(t, open, 2)
		wantWrong(t, open+"} else {\n}\n", 2)
		wantWrong(t, open+"retry\n} else {\n}\n", 3)
		wantWrong(t, "or {\n"+open+"} else {\n}\n}\n", 3)
		wantWrong(t, open+"}\n}\n", 3)
	}
	wantWrong(t, "}", 1)
	wantWrong(t, "} else {\n}\n", 1)
	wantWrong(t, "\n\nretry\n}\nx\n", 4)
}

// P10.2: behind } else { the } may follow at once, and behind { too.
func TestEmptyBlocks(t *testing.T) {
	wantRead(t, "or {\nretry\n} else {\n}\n", list(either(list(retry()), nil)))
	wantRead(t, "or {\n} else {\n}\nretry", list(either(nil, nil), retry()))
	wantRead(t, "if 1 r2 {\n} else {\n}", list(below(number(1), reg(2, 0), nil, nil)))
	wantRead(t, "atomic {\n}\nloop 1 {\n\n}", list(atomic(), loop(1)))
}

// P10.2, P10.5: blanks, empty lines, and whether the last line is ended, change nothing.
func TestBlanks(t *testing.T) {
	p := list(api.Stmt{Kind: api.StGet, Coll: 1, Reg: 2, A: reg(1, -1)}, either(list(retry()), list(abort())))
	wantRead(t, "get 1 r1-1 r2\nor {\n  retry\n} else {\n  abort\n}\n", p)
	wantRead(t, "get 1 r1-1 r2\nor {\nretry\n} else {\nabort\n}", p)
	wantRead(t, "\n\n   get   1    r1-1 r2   \n  \nor    {\n retry \n\n         }  else     { \nabort\n   }   ", p)
	wantRead(t, "get 1 r1-1 r2\n      or {\n            retry\n   } else {\n abort\n}\n\n\n", p)
	for _, s := range []string{"\n", " ", "   \n", "\n\n\n", " \n \n "} {
		wantRead(t, s, nil)
	}
	wantWrong(t, "get 1 r1 -1 r2", 1)
	wantWrong(t, "get 1 r1- 1 r2", 1)
	wantWrong(t, "get 1 r 1 r2", 1)
	wantWrong(t, "g et 1 r1 r2", 1)
	wantWrong(t, "or\n{\n}", 1)
	wantWrong(t, "or {\n}\nelse {\n}", 3)
	wantWrong(t, "or { }", 1)
	wantWrong(t, "get1 1 r1", 1)
}

// Rule 3: what is handed in is as it was, and what is handed out shares nothing, one list with another one.
func TestHandedInAndOut(t *testing.T) {
	p := list(either(list(retry()), list(abort())), atomic(retry()))
	if _, err := text.Print(p); err != nil || !reflect.DeepEqual(p, list(either(list(retry()), list(abort())), atomic(retry()))) {
		t.Errorf("Print: %v, and the transaction is %v", err, p)
	}
	s := "or {\nretry\n} else {\nabort\n}\natomic {\nretry\n}\nretry\n"
	got, err := text.Parse(s)
	if err != nil {
		t.Fatal(err)
	}
	want := list(either(list(retry()), list(abort())), atomic(retry()), retry())
	for _, q := range [][]api.Stmt{got[0].Body, got[0].Else, got[1].Body} {
		q[0].Reg = 5
		_ = append(q, loop(3), loop(3), loop(3))
		q[0].Reg = 0
	}
	_ = append(got, loop(3), loop(3), loop(3))
	if !same(got, want) {
		t.Errorf("%v, want %v", got, want)
	}
	got[0].Body[0].Kind = 99
	wantRead(t, s, want)
}
