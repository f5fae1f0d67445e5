package eval_test

import (
	"errors"
	"math"
	"reflect"
	"slices"
	"strconv"
	"strings"
	"testing"

	"concord/api"
	"concord/eval"
	"concord/model"
	"concord/prog"
	"concord/text"
)

// wantErr looks that an error is that one, and no other one, and names no place.
func wantErr(t *testing.T, what string, got error, want api.Errno) {
	t.Helper()
	wantOnly(t, what, got, want)
	var f *api.Fault
	if errors.As(got, &f) {
		t.Errorf("%s: %v names a place", what, got)
	}
}

// wantFault looks that an error is that one, and no other one, at that place.
func wantFault(t *testing.T, what string, got error, want api.Errno, place int) {
	t.Helper()
	wantOnly(t, what, got, want)
	var f *api.Fault
	if !errors.As(got, &f) || f == nil || f.At != place || f.Err != want || api.Place(got) != place {
		t.Errorf("%s: %v, want %v at %d", what, got, want, place)
	}
}

func wantOnly(t *testing.T, what string, got error, want api.Errno) {
	t.Helper()
	for e := api.ErrNil; e <= api.ErrKind; e++ {
		if errors.Is(got, e) != (e == want) {
			t.Errorf("%s: %v, want %v", what, got, want)
			return
		}
	}
}

// wantRefused looks that Run answers an error, and else nothing, and that the state stays as it was.
func wantRefused(t *testing.T, s *model.State, p []api.Stmt, look func(what string, err error)) {
	t.Helper()
	was := s.Copy()
	o, x, err := eval.Run(s, p)
	look("Run", err)
	if o != nil || x.End != 0 || len(x.Told) != 0 {
		t.Errorf("Run = %v, %v beside an error", o, x)
	}
	if !s.Same(was) {
		t.Error("the state is another one")
	}
}

// lines is a transaction; a ; stands for the end of a line.
func lines(t *testing.T, s string) []api.Stmt {
	t.Helper()
	p, err := text.Parse(strings.ReplaceAll(s, ";", "\n"))
	if err != nil {
		t.Fatalf("%s: %v", s, err)
	}
	return p
}

// shown is a transaction for people; one that is not right has none.
func shown(p []api.Stmt) string {
	s, err := text.Print(p)
	if err != nil {
		return err.Error()
	}
	return "\n" + s
}

// run is what Run answers of a transaction that has no error. What must be of all of those is looked at.
func run(t *testing.T, s *model.State, p []api.Stmt) (*model.State, api.Eval) {
	t.Helper()
	was := s.Copy()
	o, x, err := eval.Run(s, p)
	if o == nil || err != nil {
		t.Fatalf("Run = %v, %v, %v", o, x, err)
	}
	if o == s {
		t.Error("Run hands out the state that was handed in")
	}
	if !s.Same(was) {
		t.Error("the state is another one")
	}
	if x.End != api.EndDone && !o.Same(was) {
		t.Errorf("the end is %d, and the state another one", x.End)
	}
	return o, x
}

// want looks how a transaction ends, and what it is told, and hands on the state.
func want(t *testing.T, s *model.State, p string, end int, told ...int) *model.State {
	t.Helper()
	return wantOf(t, s, lines(t, p), end, told...)
}

func wantOf(t *testing.T, s *model.State, p []api.Stmt, end int, told ...int) *model.State {
	t.Helper()
	o, x := run(t, s, p)
	if x.End != end || !slices.Equal(x.Told, told) {
		t.Errorf("%s: the end %d, told %v, want %d, %v", shown(p), x.End, x.Told, end, told)
	}
	return o
}

// Which collection of those of open is which.
const (
	aMap    = 0
	aSet    = 1
	ordered = 2
)

// open is a state with an empty collection of each kind.
func open(t *testing.T) *model.State {
	t.Helper()
	return openOf(t, api.CollMap, api.CollSet, api.CollOrdered)
}

func openOf(t *testing.T, kinds ...int) *model.State {
	t.Helper()
	s, err := model.New(kinds...)
	if s == nil || err != nil {
		t.Fatalf("New(%v) = %v, %v", kinds, s, err)
	}
	return s
}

func pair(key, value int) api.Pair { return api.Pair{Key: key, Value: value} }

// with puts keys and values into a collection.
func with(t *testing.T, s *model.State, coll int, all ...api.Pair) *model.State {
	t.Helper()
	for _, x := range all {
		if err := s.Put(coll, x.Key, x.Value); err != nil {
			t.Fatalf("Put(%d, %d, %d): %v", coll, x.Key, x.Value, err)
		}
	}
	return s
}

// filled puts so many keys into a collection, that no statement takes.
func filled(t *testing.T, s *model.State, coll, keys int) *model.State {
	t.Helper()
	for i := range keys {
		with(t, s, coll, pair(1000+i, 1))
	}
	return s
}

// wantAll looks that a collection has just these.
func wantAll(t *testing.T, s *model.State, coll int, want ...api.Pair) {
	t.Helper()
	if all, err := s.List(coll); !slices.Equal(all, want) || err != nil {
		t.Errorf("List(%d) = %v, %v, want %v", coll, all, err, want)
	}
}

func wantSame(t *testing.T, s, o *model.State) {
	t.Helper()
	if !s.Same(o) {
		t.Error("the states are not the same")
	}
}

// The chapter's examples.
func TestExamples(t *testing.T) {
	s := want(t, open(t), "put 0 1 7; get 0 1 r1", api.EndDone, 7)
	wantAll(t, s, aMap, pair(1, 7))
	s = want(t, open(t), "or {; put 0 1 7; retry; } else {; get 0 1 r1; }", api.EndDone, -1)
	wantAll(t, s, aMap)
}

// P11.1: a transaction without statements is done.
func TestEmpty(t *testing.T) {
	for _, p := range [][]api.Stmt{nil, {}} {
		s := with(t, open(t), aMap, pair(1, 7))
		wantSame(t, wantOf(t, s, p, api.EndDone), s)
		wantOf(t, openOf(t), p, api.EndDone)
	}
}

// P11.1: of a state that is none ErrNil, whatever the transaction is.
func TestNil(t *testing.T) {
	for _, s := range []*model.State{nil, {}} {
		for _, p := range [][]api.Stmt{nil, {{Kind: api.StRetry}}, {{}}, lines(t, "set r1 1")} {
			wantRefused(t, s, p, func(what string, err error) { t.Helper(); wantErr(t, what, err, api.ErrNil) })
		}
	}
}

// P11.1: prog.Right's error, with the kinds that the state has.
func TestRight(t *testing.T) {
	for _, x := range []struct {
		p    []api.Stmt
		want api.Errno
		at   int
	}{
		{lines(t, "get 3 1 r1"), api.ErrForm, 1},
		{lines(t, "put 0 1 1; retry; loop 6 {; }"), api.ErrForm, 3},
		{lines(t, "ceil 2 1 r1; ceil 0 1 r1"), api.ErrForm, 2},
		{lines(t, "range 2 1 2 r1; range 1 1 2 r1"), api.ErrForm, 2},
		{[]api.Stmt{{}}, api.ErrForm, 1},
		{[]api.Stmt{{Kind: api.StSet, Reg: 9}}, api.ErrForm, 1},
		{[]api.Stmt{{Kind: api.StSet, Reg: 1, A: api.Arg{Reg: -1}}}, api.ErrForm, 1},
		{slices.Repeat(lines(t, "retry"), 101), api.ErrMany, 101},
		{lines(t, strings.Repeat("atomic {;", 9)+strings.Repeat("};", 9)), api.ErrDeep, 9},
	} {
		s := with(t, open(t), aMap, pair(1, 7))
		wantRefused(t, s, x.p, func(what string, err error) { t.Helper(); wantFault(t, what, err, x.want, x.at) })
	}
	p := lines(t, "atomic {; }")
	p[0].Body = p
	wantRefused(t, open(t), p, func(what string, err error) { t.Helper(); wantFault(t, what, err, api.ErrDeep, 9) })
	wantRefused(t, openOf(t), lines(t, "size 0 r1"), func(what string, err error) { t.Helper(); wantFault(t, what, err, api.ErrForm, 1) })
	want(t, openOf(t, api.CollOrdered), "ceil 0 1 r1; range 0 1 2 r1", api.EndDone, -1, 0)
	wantOf(t, open(t), slices.Repeat(lines(t, "set r1 1"), 100), api.EndDone)
	want(t, open(t), strings.Repeat("atomic {;", 7)+"size 0 r1;"+strings.Repeat("};", 7), api.EndDone, 0)
}

// Words: what is asked of a collection is told, and is in the register.
func TestAsked(t *testing.T) {
	s := open(t)
	for coll := range 3 {
		with(t, s, coll, pair(3, 30), pair(7, 70))
	}
	for _, x := range []struct {
		p    string
		told int
	}{
		{"get 0 3 r1", 30},
		{"get 0 4 r1", -1},
		{"get 1 3 r1", 1},
		{"get 1 4 r1", -1},
		{"get 2 7 r1", 70},
		{"has 0 3 r1", 1},
		{"has 0 4 r1", 0},
		{"has 1 7 r1", 1},
		{"has 1 8 r1", 0},
		{"has 2 3 r1", 1},
		{"has 2 63 r1", 0},
		{"size 0 r1", 2},
		{"size 1 r1", 2},
		{"size 2 r1", 2},
		{"ceil 2 0 r1", 3},
		{"ceil 2 3 r1", 3},
		{"ceil 2 4 r1", 7},
		{"ceil 2 7 r1", 7},
		{"ceil 2 8 r1", -1},
		{"range 2 0 63 r1", 2},
		{"range 2 3 7 r1", 2},
		{"range 2 4 7 r1", 1},
		{"range 2 3 6 r1", 1},
		{"range 2 4 6 r1", 0},
		{"range 2 7 3 r1", 0},
		{"range 2 3 3 r1", 1},
	} {
		wantSame(t, want(t, s, x.p, api.EndDone, x.told), s)
		o := want(t, s, x.p+"; put 0 9 r1", api.EndDone, x.told)
		with(t, o, aMap, pair(10, 0))
		want(t, o, "get 0 9 r1", api.EndDone, (x.told+1000)%1000)
		want(t, s, strings.ReplaceAll(x.p, "r1", "r8")+"; if r8 500 {; size 0 r1; } else {; size 0 r1; size 0 r1; }", api.EndDone, told(x.told, x.told >= 0)...)
	}
}

// told is a number, and the size 2 once, or else twice.
func told(n int, once bool) []int {
	if once {
		return []int{n, 2}
	}
	return []int{n, 2, 2}
}

// Words: -1 of get and ceil is what the register has, not what it is as a value or a key.
func TestNoneInRegister(t *testing.T) {
	s := with(t, open(t), ordered, pair(0, 5), pair(63, 6))
	want(t, s, "get 0 1 r1; get 2 r1+1 r2; get 2 r1 r3", api.EndDone, -1, 5, 6)
	want(t, s, "del 2 63; ceil 2 1 r1; put 0 2 r1; get 0 2 r4; add r2 r1 r1; put 0 3 r2; get 0 3 r5", api.EndDone, -1, 999, 998)
}

// Words: of a list how many keys, and then each key and its value.
func TestList(t *testing.T) {
	s := open(t)
	want(t, s, "list 0; list 1; list 2", api.EndDone, 0, 0, 0)
	with(t, s, aMap, pair(9, 4), pair(2, 5), pair(70, -8), pair(-3, 1))
	with(t, s, aSet, pair(5, 7))
	want(t, s, "list 0", api.EndDone, 4, -3, 1, 2, 5, 9, 4, 70, -8)
	want(t, s, "list 1; list 2; put 2 1 2; list 2; del 2 1; list 2", api.EndDone, 1, 5, 1, 0, 1, 1, 2, 0)
	filled(t, s, ordered, api.MaxKeys)
	_, x := run(t, s, lines(t, "list 2"))
	if len(x.Told) != 201 || x.Told[0] != 100 || x.Told[1] != 1000 || x.Told[199] != 1099 || x.Told[200] != 1 {
		t.Errorf("told %v", x.Told)
	}
}

// Words: put and del, of each kind; nothing of it is told.
func TestPutAndDel(t *testing.T) {
	for coll, value := range []int{8, 1, 8} {
		c := strconv.Itoa(coll)
		s := with(t, open(t), coll, pair(2, 5))
		o := want(t, s, "put "+c+" 1 8; put "+c+" 2 8", api.EndDone)
		wantAll(t, o, coll, pair(1, value), pair(2, value))
		o = want(t, o, "del "+c+" 2; del "+c+" 2; del "+c+" 3", api.EndDone)
		wantAll(t, o, coll, pair(1, value))
		for other := range 3 {
			if other != coll {
				wantAll(t, o, other)
			}
		}
	}
}

// Words: keys modulo KeySpan, from 0 on, wherever one is taken.
func TestKeys(t *testing.T) {
	for n := -api.MaxArg; n <= api.MaxArg; n++ {
		key := (n + 6400) % 64
		for _, a := range args(n) {
			o := want(t, open(t), "set r2 10; put 2 "+a+" 5; get 2 "+a+" r1; has 2 "+a+" r1; ceil 2 "+a+" r1; range 2 "+a+" "+a+" r1", api.EndDone, 5, 1, key, 1)
			wantAll(t, o, ordered, pair(key, 5))
			wantAll(t, want(t, o, "set r2 10; del 2 "+a, api.EndDone), ordered)
		}
		if t.Failed() {
			t.Fatalf("%d", n)
		}
	}
	s := with(t, open(t), ordered, pair(5, 1), pair(6, 1), pair(63, 1))
	want(t, s, "range 2 69 70 r1; range 2 -1 64 r1; range 2 0 -1 r1; range 2 64 63 r1; range 2 6 69 r1", api.EndDone, 2, 0, 3, 3, 0)
	with(t, s, ordered, pair(-2, 1), pair(100, 1))
	want(t, s, "get 2 -2 r1; get 2 100 r1; ceil 2 -1 r1; ceil 2 63 r1; range 2 0 63 r1; size 2 r1; del 2 63; ceil 2 63 r1", api.EndDone, -1, -1, 63, 63, 3, 5, 100)
}

// args are the words of that number, and of that number as one more, or less, than what r2 has, which is 10.
func args(n int) []string {
	all := []string{strconv.Itoa(n)}
	if m := n - 10; m > 0 {
		all = append(all, "r2+"+strconv.Itoa(m))
	} else if m < 0 && m >= -api.MaxArg {
		all = append(all, "r2"+strconv.Itoa(m))
	}
	return all
}

// Words: values modulo Values, from 0 on, wherever one is taken.
func TestValues(t *testing.T) {
	for n := -api.MaxArg; n <= api.MaxArg; n++ {
		value := (n + 1000) % 1000
		v := strconv.Itoa(value)
		for _, a := range args(n) {
			o := want(t, open(t), "set r2 10; put 0 1 "+a+"; get 0 1 r1; set r3 "+a+"; add r4 "+a+" 0; add r5 0 "+a+"; add r6 "+a+" "+a, api.EndDone, value)
			wantAll(t, o, aMap, pair(1, value))
			p := "set r2 10; set r3 " + a + "; add r4 " + a + " 0; add r5 0 " + a + "; add r6 " + a + " " + a + ";"
			want(t, open(t), p+"put 0 1 r3; get 0 1 r1; put 0 1 r4; get 0 1 r1; put 0 1 r5; get 0 1 r1; put 0 1 r6; get 0 1 r1", api.EndDone, value, value, value, 2*value%1000)
			less := "if " + a + " " + v + " {; size 0 r1; }; if " + v + " " + a + " {; size 0 r1; };"
			want(t, open(t), "set r2 10;"+less, api.EndDone)
		}
		if t.Failed() {
			t.Fatalf("%d", n)
		}
	}
}

// Words: what a register is set to is a value, from 0 on, so what is added to it is too.
func TestSetTakesValues(t *testing.T) {
	want(t, open(t), "set r1 -1; put 2 r1 1; list 2", api.EndDone, 1, 999%64, 1)
	want(t, open(t), "set r1 999; add r1 r1 1; put 2 r1 1; list 2", api.EndDone, 1, 0, 1)
	want(t, open(t), "add r1 -1 -1; put 2 r1 1; list 2", api.EndDone, 1, 998%64, 1)
}

// Words: registers are 0 at first, all eight, each its own, and those of the next transaction are 0 again.
func TestRegisters(t *testing.T) {
	var first, all, get string
	var zeros, values []int
	for reg := 1; reg <= api.Regs; reg++ {
		r := strconv.Itoa(reg)
		first += "put 0 " + r + " r" + r + ";"
		all += "set r" + r + " " + r + "0;"
		get += "get 0 " + r + " r8;"
		zeros, values = append(zeros, 0), append(values, 10*reg)
	}
	s := want(t, open(t), first, api.EndDone)
	want(t, s, get, api.EndDone, zeros...)
	s = want(t, s, all+first, api.EndDone)
	want(t, s, get, api.EndDone, values...)
	want(t, want(t, s, first, api.EndDone), get, api.EndDone, zeros...)
}

// Words: sums are modulo 2^64, as a number from -2^63 on.
func TestSums(t *testing.T) {
	const low, high = math.MinInt64, math.MaxInt64
	for _, x := range []struct {
		one, two int
		p        string
		want     int
	}{
		{high, 0, "put 1 r1 1; list 1", 63},
		{high, 0, "put 1 r1+1 1; list 1", 0},
		{high, 0, "put 1 r1+64 1; list 1", 63},
		{low, 0, "put 1 r1 1; list 1", 0},
		{low, 0, "put 1 r1-1 1; list 1", 63},
		{high, 0, "put 2 0 r1; list 2", 807},
		{high, 0, "put 2 0 r1+1; list 2", 192},
		{low, 0, "put 2 0 r1; list 2", 192},
		{low, 0, "put 2 0 r1-1; list 2", 807},
		{high, 0, "put 2 0 r1+999; list 2", 190},
		{high, high, "add r3 r1 r2; put 2 0 r3; list 2", 998},
		{low, low, "add r3 r1 r2; put 2 0 r3; list 2", 0},
		{high, low, "add r3 r1 r2; put 2 0 r3; list 2", 999},
		{high, 1, "add r3 r1 r2; put 2 0 r3; list 2", 192},
		{high, 1, "add r3 r1+1 r2-1; put 2 0 r3; list 2", 192},
		{low, -1, "add r3 r1 r2; put 2 0 r3; list 2", 807},
		{high, 0, "set r3 r1+1; put 2 0 r3; list 2", 192},
		{high, 193, "if r1+1 r2 {; put 2 0 1; }; list 2", 1},
		{high, 192, "if r1+1 r2 {; put 2 0 1; } else {; put 2 0 2; }; list 2", 2},
		{191, high, "if r1 r2+1 {; put 2 0 1; }; list 2", 1},
	} {
		s := with(t, open(t), aMap, pair(1, x.one), pair(2, x.two))
		_, got := run(t, s, lines(t, "get 0 1 r1; get 0 2 r2;"+x.p))
		wantTold := []int{x.one, x.two, 1, 0, x.want}
		if strings.HasPrefix(x.p, "put 1") {
			wantTold = []int{x.one, x.two, 1, x.want, 1}
		}
		if got.End != api.EndDone || !slices.Equal(got.Told, wantTold) {
			t.Errorf("%d, %d, %s: %v, want told %v", x.one, x.two, x.p, got, wantTold)
		}
	}
}

// Words: Body, if A is smaller than B, both as values; else Else.
func TestIf(t *testing.T) {
	for _, x := range []struct {
		a, b string
		want int
	}{
		{"0", "1", 1}, {"1", "0", 2}, {"0", "0", 2}, {"998", "999", 1}, {"999", "998", 2}, {"999", "999", 2},
		{"-1", "0", 2}, {"0", "-1", 1}, {"-1", "998", 2}, {"998", "-1", 1}, {"-1", "999", 2}, {"-999", "2", 1}, {"-999", "1", 2},
		{"r1", "r2", 1}, {"r2", "r1", 2}, {"r1+1", "r2", 2}, {"r1-3", "1", 2}, {"1", "r1-3", 1}, {"r1", "r1", 2}, {"r3+999", "r1", 1},
	} {
		p := "set r1 2; set r2 3; set r3 1; put 2 5 5; if " + x.a + " " + x.b + " {; put 0 1 1; get 0 1 r1;"
		want(t, open(t), p+"} else {; put 0 1 2; get 0 1 r1; }; size 2 r1", api.EndDone, x.want, 1)
		alone := []int{1, 1}
		if x.want == 2 {
			alone = []int{1}
		}
		want(t, open(t), p+"}; size 2 r1", api.EndDone, alone...)
	}
	want(t, open(t), "set r3 1; if r3+999 1 {; size 0 r1; size 0 r1; } else {; size 0 r1; }", api.EndDone, 0, 0)
	want(t, open(t), "if 1 2 {; } else {; size 0 r1; }; if 2 1 {; size 0 r1; }", api.EndDone)
}

// Words: Body so often as A's N.
func TestLoop(t *testing.T) {
	for n := range api.MaxTimes + 1 {
		times := strconv.Itoa(n)
		var want1, want2 []int
		for i := range n {
			want1 = append(want1, i)
			want2 = append(want2, 0)
		}
		want(t, open(t), "loop "+times+" {; put 2 r2 5; add r2 r2 1; get 2 r1 r3; add r1 r1 1; }; size 2 r4",
			api.EndDone, append(slices.Repeat([]int{5}, n), n)...)
		want(t, open(t), "loop "+times+" {; size 2 r1; put 2 r2 1; add r2 r2 1; }", api.EndDone, want1...)
		want(t, open(t), "loop "+times+" {; size 2 r1; }; loop "+times+" {; }", api.EndDone, want2...)
		o := want(t, open(t), "loop "+times+" {; loop "+times+" {; add r1 r1 1; }; }; put 0 1 r1", api.EndDone)
		wantAll(t, o, aMap, pair(1, n*n))
	}
	want(t, open(t), "loop 3 {; size 0 r1; retry; }", api.EndBlocked, 0)
	want(t, open(t), "loop 3 {; size 0 r1; abort; }", api.EndAborted, 0)
}

// Words: an abort undoes what its atomic did to collections, and nothing else, and it goes on behind it.
func TestAtomic(t *testing.T) {
	s := open(t)
	for coll := range 3 {
		with(t, s, coll, pair(1, 10), pair(2, 20))
	}
	o := want(t, s, "put 0 3 3; atomic {; put 0 1 4; del 0 2; put 1 5 5; del 2 1; get 0 1 r1; set r2 6; abort; size 0 r3; }; get 0 1 r4; put 0 5 r1; put 0 6 r2; put 0 7 r3",
		api.EndDone, 4, 10)
	wantAll(t, o, aMap, pair(1, 10), pair(2, 20), pair(3, 3), pair(5, 4), pair(6, 6), pair(7, 0))
	wantAll(t, o, aSet, pair(1, 1), pair(2, 1))
	wantAll(t, o, ordered, pair(1, 10), pair(2, 20))
	o = want(t, s, "atomic {; put 0 1 4; }; get 0 1 r1; atomic {; }", api.EndDone, 4)
	wantAll(t, o, aMap, pair(1, 4), pair(2, 20))
	o = want(t, s, "atomic {; put 0 3 3; atomic {; put 0 4 4; abort; }; atomic {; put 0 5 5; }; get 0 5 r1; }", api.EndDone, 5)
	wantAll(t, o, aMap, pair(1, 10), pair(2, 20), pair(3, 3), pair(5, 5))
	o = want(t, s, "atomic {; put 0 3 3; atomic {; put 0 4 4; abort; }; atomic {; put 0 5 5; }; get 0 3 r1; abort; }", api.EndDone, 3)
	wantSame(t, o, s)
	o = want(t, s, "loop 3 {; atomic {; add r1 r1 1; put 0 3 r1; if r1 2 {; abort; }; }; }; get 0 3 r2", api.EndDone, 3)
	wantAll(t, o, aMap, pair(1, 10), pair(2, 20), pair(3, 3))
	wantSame(t, want(t, s, "atomic {; if 1 2 {; loop 2 {; put 0 9 9; abort; }; }; }", api.EndDone), s)
	wantSame(t, want(t, s, "atomic {; if 2 1 {; } else {; put 0 9 9; abort; }; }", api.EndDone), s)
}

// Words: a retry undoes what its or did to collections and registers, and what it was told, and Else is done.
func TestOr(t *testing.T) {
	s := open(t)
	for coll := range 3 {
		with(t, s, coll, pair(1, 10), pair(2, 20))
	}
	p := "set r1 7; put 0 3 3; size 0 r2; or {; put 0 1 4; del 0 2; put 1 5 5; del 2 1; get 0 1 r1; set r2 6; add r3 r3 1; list 0; retry; size 1 r1; } else {; get 0 1 r4; size 1 r5; };"
	o := want(t, s, p+"put 0 5 r1; put 0 6 r2; put 0 7 r3; size 2 r8", api.EndDone, 3, 10, 2, 2)
	wantAll(t, o, aMap, pair(1, 10), pair(2, 20), pair(3, 3), pair(5, 7), pair(6, 3), pair(7, 0))
	wantAll(t, o, aSet, pair(1, 1), pair(2, 1))
	wantAll(t, o, ordered, pair(1, 10), pair(2, 20))
	o = want(t, s, "or {; put 0 1 4; get 0 1 r1; } else {; put 0 9 9; size 0 r1; }; put 0 3 r1", api.EndDone, 4)
	wantAll(t, o, aMap, pair(1, 4), pair(2, 20), pair(3, 4))
	wantSame(t, want(t, s, "or {; put 0 1 4; get 0 1 r1; retry; }", api.EndDone), s)
	want(t, s, "or {; } else {; size 0 r1; }; or {; retry; } else {; }", api.EndDone)
	want(t, s, "or {; or {; size 0 r1; retry; } else {; size 1 r1; }; size 2 r1; } else {; get 0 1 r1; }", api.EndDone, 2, 2)
	want(t, s, "or {; or {; size 0 r1; retry; } else {; size 1 r1; retry; }; } else {; get 0 1 r1; }", api.EndDone, 10)
	want(t, s, "or {; or {; size 0 r1; } else {; size 1 r1; }; put 0 5 5; retry; } else {; size 0 r1; }", api.EndDone, 2)
	want(t, s, "or {; if 1 2 {; loop 2 {; put 0 9 9; size 0 r1; retry; }; }; } else {; size 0 r1; }", api.EndDone, 2)
	want(t, s, "or {; if 2 1 {; } else {; put 0 9 9; retry; }; } else {; size 0 r1; }", api.EndDone, 2)
	want(t, s, "loop 2 {; or {; add r1 r1 1; put 0 5 r1; get 0 5 r2; if r1 2 {; retry; }; } else {; set r1 1; size 0 r2; }; }", api.EndDone, 2, 2)
}

// Words: what was told ahead of an or stays as it was, whatever is told in its Body and undone.
func TestToldAheadOfOr(t *testing.T) {
	s := with(t, open(t), aMap, pair(1, 10), pair(2, 20))
	for ahead := range 20 {
		p := "get 0 1 r1;"
		want(t, s, strings.Repeat(p, ahead)+"or {; get 0 2 r1; get 0 2 r1; retry; } else {; get 0 3 r1; }; get 0 1 r1", api.EndDone,
			append(slices.Repeat([]int{10}, ahead), -1, 10)...)
		want(t, s, strings.Repeat(p, ahead)+"or {; or {; get 0 2 r1; retry; } else {; get 0 3 r1; retry; }; }; get 0 1 r1", api.EndDone,
			slices.Repeat([]int{10}, ahead+1)...)
	}
}

// Words: a retry goes through an atomic, an abort through an or, whatever they are in; one that meets none ends all.
func TestThrough(t *testing.T) {
	s := with(t, open(t), aMap, pair(1, 10))
	want(t, s, "size 0 r1; put 0 2 2; retry; size 0 r1", api.EndBlocked, 1)
	want(t, s, "size 0 r1; put 0 2 2; abort; size 0 r1", api.EndAborted, 1)
	want(t, s, "atomic {; put 0 2 2; size 0 r1; retry; }; size 0 r1", api.EndBlocked, 2)
	want(t, s, "or {; put 0 2 2; size 0 r1; abort; } else {; size 1 r1; }; size 0 r1", api.EndAborted, 2)
	want(t, s, "or {; put 0 2 2; atomic {; put 0 3 3; size 0 r1; retry; }; size 0 r1; } else {; size 0 r1; }; get 0 3 r1", api.EndDone, 1, -1)
	want(t, s, "atomic {; put 0 2 2; or {; put 0 3 3; size 0 r1; abort; } else {; size 1 r1; }; size 1 r1; }; size 0 r1", api.EndDone, 3, 1)
	want(t, s, "or {; size 0 r1; retry; } else {; size 1 r1; retry; }; size 0 r1", api.EndBlocked, 0)
	want(t, s, "or {; size 0 r1; retry; } else {; put 0 2 2; size 0 r1; abort; }; size 0 r1", api.EndAborted, 2)
	want(t, s, "atomic {; or {; size 0 r1; retry; } else {; put 0 2 2; size 0 r1; abort; }; }; size 0 r1", api.EndDone, 2, 1)
	want(t, s, "atomic {; atomic {; put 0 2 2; abort; }; or {; size 0 r1; } else {; abort; }; }", api.EndDone, 1)
	want(t, s, "or {; atomic {; put 0 2 2; abort; }; size 0 r1; retry; } else {; get 0 1 r1; }", api.EndDone, 10)
	want(t, s, "atomic {; size 0 r1; or {; size 0 r1; retry; }; retry; }", api.EndBlocked, 1)
	want(t, s, "or {; size 0 r1; atomic {; size 0 r1; abort; }; abort; } else {; size 1 r1; }", api.EndAborted, 1, 1)
	want(t, s, "or {; retry; }; retry", api.EndBlocked)
	want(t, s, "atomic {; abort; }; abort", api.EndAborted)
}

// takes is a transaction of so many steps, from 957 to 1050.
func takes(t *testing.T, steps int) []api.Stmt {
	t.Helper()
	deep := "loop 5 {; loop 5 {; loop 5 {; " + strings.Repeat("add r1 r1 1;", 7) + "}; }; };" // 1 + 5 + 25 + 125 * 7
	wide := "loop 5 {;" + strings.Repeat("add r1 r1 1;", 10) + "};"                           // 1 + 5 * 10
	return slices.Concat(lines(t, deep+wide), slices.Repeat(lines(t, "size 0 r2"), steps-957))
}

// P11.1: as many steps as may be; the step that is one more ends it, wherever it is.
func TestSteps(t *testing.T) {
	s := with(t, open(t), aMap, pair(1, 10))
	zeros := func(n int) []int { return slices.Repeat([]int{1}, n) }
	wantOf(t, s, takes(t, 999), api.EndDone, zeros(42)...)
	wantOf(t, s, takes(t, 1000), api.EndDone, zeros(43)...)
	wantOf(t, s, takes(t, 1001), api.EndCapped, zeros(43)...)
	wantOf(t, s, takes(t, 1002), api.EndCapped, zeros(43)...)
	for _, x := range []struct {
		p    string
		end  int
		told []int
	}{
		{"put 0 2 2", api.EndDone, nil},
		{"retry", api.EndBlocked, nil},
		{"abort", api.EndAborted, nil},
		{"size 0 r1; abort", api.EndCapped, []int{1}},
		{"size 0 r1; retry", api.EndCapped, []int{1}},
		{"atomic {; }", api.EndDone, nil},
		{"or {; }", api.EndDone, nil},
		{"loop 0 {; size 0 r1; }", api.EndDone, nil},
		{"loop 5 {; }", api.EndDone, nil},
		{"if 2 1 {; size 0 r1; }", api.EndDone, nil},
		{"if 1 2 {; size 0 r1; }", api.EndCapped, nil},
		{"if 2 1 {; } else {; size 0 r1; }", api.EndCapped, nil},
		{"loop 1 {; size 0 r1; }", api.EndCapped, nil},
		{"atomic {; abort; }", api.EndCapped, nil},
		{"or {; retry; } else {; }", api.EndCapped, nil},
		{"or {; size 0 r1; } else {; size 0 r1; }", api.EndCapped, nil},
	} {
		wantOf(t, s, slices.Concat(takes(t, 999), lines(t, x.p)), x.end, slices.Concat(zeros(42), x.told)...)
	}
	wantOf(t, s, slices.Concat(takes(t, 998), lines(t, "or {; retry; } else {; }")), api.EndDone, zeros(41)...)
	wantOf(t, s, slices.Concat(takes(t, 998), lines(t, "or {; retry; } else {; size 0 r1; }")), api.EndCapped, zeros(41)...)
	wantOf(t, s, slices.Concat(takes(t, 997), lines(t, "or {; size 0 r1; retry; } else {; size 0 r1; }")), api.EndCapped, zeros(40)...)
	wantOf(t, s, slices.Concat(takes(t, 997), lines(t, "or {; size 0 r1; size 0 r1; size 0 r1; } else {; size 1 r1; }")), api.EndCapped, zeros(42)...)
	wantOf(t, s, slices.Concat(takes(t, 997), lines(t, "atomic {; size 0 r1; size 0 r1; size 0 r1; }; size 1 r1")), api.EndCapped, zeros(42)...)
	wantOf(t, s, slices.Concat(takes(t, 998), lines(t, "atomic {; abort; }; size 1 r1")), api.EndCapped, zeros(41)...)
}

// P11.1: steps that are undone count, and there is no way to have more of them.
func TestUndoneStepsCount(t *testing.T) {
	body := strings.Repeat("size 0 r1;", 10)
	p := "loop 5 {; loop 5 {; or {;" + body + "retry; } else {; set r1 1; }; }; };" // 6 + 25 * 13 = 331
	s := open(t)
	want(t, s, p+p+p+"list 0; list 0; list 0; list 0; list 0; list 0; list 0", api.EndDone, 0, 0, 0, 0, 0, 0, 0)
	want(t, s, p+p+p+"list 0; list 0; list 0; list 0; list 0; list 0; list 0; list 0", api.EndCapped, 0, 0, 0, 0, 0, 0, 0)
	q := strings.ReplaceAll(strings.ReplaceAll(p, "or {", "atomic {"), "retry; } else {; set r1 1; }", "abort; }; set r1 1")
	_, x := run(t, s, lines(t, q+q+q+"list 0; list 0; list 0; list 0; list 0; list 0; list 0"))
	if x.End != api.EndDone || len(x.Told) != 757 {
		t.Errorf("the end %d, told %d", x.End, len(x.Told))
	}
	_, x = run(t, s, lines(t, q+q+q+"list 0; list 0; list 0; list 0; list 0; list 0; list 0; list 0"))
	if x.End != api.EndCapped || len(x.Told) != 757 {
		t.Errorf("the end %d, told %d", x.End, len(x.Told))
	}
	want(t, s, strings.Repeat("loop 5 {;", 8)+strings.Repeat("};", 8), api.EndCapped)
}

// P11.1: ErrMany, if a put is answered so, whatever it is in, and whatever is undone behind it.
func TestMany(t *testing.T) {
	for coll := range 3 {
		c := strconv.Itoa(coll)
		s := filled(t, open(t), coll, api.MaxKeys-1)
		for _, p := range []string{
			"put C 1 1; put C 2 1",
			"size C r1; put C 1 1; atomic {; put C 2 1; abort; }",
			"put C 1 1; or {; put C 2 1; retry; } else {; size C r1; }",
			"put C 1 1; or {; retry; } else {; put C 2 1; }; abort",
			"put C 1 1; put C 1 2; loop 2 {; put C r1 1; del C r1; add r1 r1 1; }; retry",
			"atomic {; or {; put C 1 1; put C 2 1; } else {; put C 3 1; }; abort; }",
			"put C -1 1; put C 63 1; put C 64 1",
		} {
			wantRefused(t, s, lines(t, strings.ReplaceAll(p, "C", c)), func(what string, err error) { t.Helper(); wantErr(t, p, err, api.ErrMany) })
		}
		for _, p := range []string{
			"put C 1 1; put C 1 2; put C 65 3",
			"put C 1 1; del C 1; put C 2 1",
			"or {; put C 1 1; retry; } else {; put C 2 1; }",
			"atomic {; put C 1 1; abort; }; put C 2 1",
			"put C 1 1; if 2 1 {; put C 2 1; }; loop 0 {; put C 3 1; }; or {; } else {; put C 4 1; }",
		} {
			o := want(t, s, strings.ReplaceAll(p, "C", c), api.EndDone)
			if n, err := o.Size(coll); n != api.MaxKeys || err != nil {
				t.Errorf("%s: Size = %d, %v", p, n, err)
			}
		}
		want(t, s, "abort; put "+c+" 1 1; put "+c+" 2 1", api.EndAborted)
		want(t, s, "retry; put "+c+" 1 1; put "+c+" 2 1", api.EndBlocked)
	}
}

// P11.1: a put that is the step which is one more is not done, so it has no error; one ahead of it has.
func TestManyAndSteps(t *testing.T) {
	s := filled(t, open(t), aMap, api.MaxKeys)
	_, x := run(t, s, slices.Concat(takes(t, 1000), lines(t, "put 0 1 1")))
	if x.End != api.EndCapped {
		t.Errorf("the end %d", x.End)
	}
	wantRefused(t, s, slices.Concat(takes(t, 999), lines(t, "put 0 1 1; retry")), func(what string, err error) { t.Helper(); wantErr(t, what, err, api.ErrMany) })
}

// P11.1, rule 3: the state that is answered is another one: what is done with one changes nothing of the other.
func TestStatesAreTheirOwn(t *testing.T) {
	for _, p := range []string{"", "put 0 2 2", "retry", "put 0 2 2; abort", "atomic {; put 0 2 2; abort; }", "or {; put 0 2 2; retry; }", "or {; atomic {; abort; }; }; abort", "loop 5 {; loop 5 {; loop 5 {; loop 5 {; put 0 3 3; }; }; }; }"} {
		s := with(t, open(t), aMap, pair(1, 10))
		o, _ := run(t, s, lines(t, p))
		was := o.Copy()
		with(t, s, aMap, pair(5, 5))
		if err := s.Del(aMap, 1); err != nil {
			t.Fatal(err)
		}
		wantSame(t, o, was)
		with(t, o, aMap, pair(6, 6))
		wantAll(t, s, aMap, pair(5, 5))
	}
}

// Rule 3: what is handed in is not changed, nor what is behind it in its memory; what was told is the caller's own.
func TestHandedInAndOut(t *testing.T) {
	source := "get 0 1 r1; or {; put 0 2 r1; retry; } else {; atomic {; size 0 r2; abort; }; }; list 0; retry"
	room := lines(t, source)
	p := room[:3]
	s := with(t, open(t), aMap, pair(1, 10))
	_, x := run(t, s, p)
	told := slices.Clone(x.Told)
	if !reflect.DeepEqual(room, lines(t, source)) {
		t.Errorf("the transaction is %v", room)
	}
	for i := range x.Told {
		x.Told[i] = 77
	}
	wantOf(t, s, p, api.EndDone, told...)
	l := [][]api.Stmt{p, p, p, room}
	_, all, err := eval.All(s, l[:3]...)
	if err != nil || len(all) != 3 || len(l[3]) != 4 {
		t.Fatalf("All = %v, %v", all, err)
	}
	all[0].Told[0], all[1].Told = 77, append(all[1].Told, 78)
	if !slices.Equal(all[1].Told[:len(told)], told) || !slices.Equal(all[2].Told, told) || !reflect.DeepEqual(l[0], p) {
		t.Errorf("All = %v", all)
	}
}

// P11.2: each transaction is done on what the ones ahead left.
func TestAll(t *testing.T) {
	s := with(t, open(t), aMap, pair(1, 10))
	was := s.Copy()
	o, all, err := eval.All(s,
		lines(t, "get 0 1 r1; put 0 1 r1+1; get 0 2 r2"),
		lines(t, "get 0 1 r1; put 0 2 r1; put 0 1 5; retry"),
		lines(t, "put 0 2 8; list 0; abort"),
		nil,
		takes(t, 1001),
		lines(t, "list 0; put 0 2 r1; put 1 3 3"),
	)
	if err != nil || o == s {
		t.Fatalf("All = %v, %v, %v", o, all, err)
	}
	wantAll(t, o, aMap, pair(1, 11), pair(2, 0))
	wantAll(t, o, aSet, pair(3, 1))
	wantSame(t, s, was)
	ends := []api.Eval{
		{End: api.EndDone, Told: []int{10, -1}},
		{End: api.EndBlocked, Told: []int{11}},
		{End: api.EndAborted, Told: []int{2, 1, 11, 2, 8}},
		{End: api.EndDone},
		{End: api.EndCapped, Told: slices.Repeat([]int{1}, 43)},
		{End: api.EndDone, Told: []int{1, 1, 11}},
	}
	wantEvals(t, all, ends...)
}

func wantEvals(t *testing.T, got []api.Eval, want ...api.Eval) {
	t.Helper()
	same := func(x, y api.Eval) bool { return x.End == y.End && slices.Equal(x.Told, y.Told) }
	if !slices.EqualFunc(got, want, same) {
		t.Errorf("the evals %v, want %v", got, want)
	}
}

// P11.2: without transactions the state is the same, and another one; nobody is told anything.
func TestAllOfNone(t *testing.T) {
	s := with(t, open(t), aMap, pair(1, 10))
	for _, l := range [][][]api.Stmt{nil, {}} {
		o, all, err := eval.All(s, l...)
		if err != nil || o == nil || o == s || len(all) != 0 {
			t.Fatalf("All = %v, %v, %v", o, all, err)
		}
		wantSame(t, o, s)
		with(t, o, aMap, pair(2, 20))
		wantAll(t, s, aMap, pair(1, 10))
	}
}

// P11.2: the error of the first one that has one, with its place, and no state, and nothing.
func TestAllRefused(t *testing.T) {
	good, wait, form := "put 0 1 1", "put 0 1 1; retry", "size 0 r1; get 3 1 r1"
	full := "put 0 2 2; put 0 3 3"
	for _, x := range []struct {
		l    []string
		want api.Errno
		at   int
	}{
		{[]string{form}, api.ErrForm, 1},
		{[]string{good, form}, api.ErrForm, 2},
		{[]string{wait, good, form, full}, api.ErrForm, 3},
		{[]string{full, form}, api.ErrForm, 2},
		{[]string{good + ";" + full, form}, api.ErrMany, 1},
		{[]string{good, wait, good, full, form}, api.ErrMany, 4},
		{[]string{good, strings.Repeat("atomic {;", 9) + strings.Repeat("};", 9)}, api.ErrDeep, 2},
		{[]string{good, good, strings.Repeat("retry;", 101)}, api.ErrMany, 3},
	} {
		s := filled(t, open(t), aMap, api.MaxKeys-2)
		was := s.Copy()
		var l [][]api.Stmt
		for _, p := range x.l {
			l = append(l, lines(t, p))
		}
		o, all, err := eval.All(s, l...)
		wantFault(t, "All", err, x.want, x.at)
		if o != nil || len(all) != 0 {
			t.Errorf("All = %v, %v beside an error", o, all)
		}
		wantSame(t, s, was)
	}
}

// P11.2, rule 4: of a state that is none.
func TestAllOfNil(t *testing.T) {
	for _, s := range []*model.State{nil, {}} {
		o, all, err := eval.All(s)
		wantErr(t, "All", err, api.ErrNil)
		if o != nil || len(all) != 0 {
			t.Errorf("All = %v, %v beside an error", o, all)
		}
		o, all, err = eval.All(s, nil, lines(t, "get 9 1 r1"))
		wantFault(t, "All", err, api.ErrNil, 1)
		if o != nil || len(all) != 0 {
			t.Errorf("All = %v, %v beside an error", o, all)
		}
	}
}

// P1: the most that may be told, and undone, in collections that are as full as may be.
func TestGreat(t *testing.T) {
	s := openOf(t, slices.Repeat([]int{api.CollOrdered}, api.MaxColls)...)
	for coll := range api.MaxColls {
		filled(t, s, coll, api.MaxKeys)
	}
	_, x := run(t, s, lines(t, "loop 5 {; loop 5 {; loop 5 {; or {; list 0; list 7; atomic {; list 1; abort; }; }; }; }; }"))
	if want := 125 * 3 * 201; x.End != api.EndDone || len(x.Told) != want {
		t.Errorf("the end %d, told %d, want %d", x.End, len(x.Told), want)
	}
	p := lines(t, strings.Repeat("loop 5 {;", 4)+"or {; or {; list 0; retry; }; }; list 0;"+strings.Repeat("};", 4))
	if prog.Deep(p) > api.MaxNest {
		t.Fatal("too deep")
	}
	_, x = run(t, s, p)
	if x.End != api.EndCapped || len(x.Told)%201 != 0 {
		t.Errorf("the end %d, told %d", x.End, len(x.Told))
	}
}
