package text_test

import (
	"regexp"
	"strconv"
	"strings"
	"testing"

	"concord/api"
	"concord/prog"
	"concord/text"
)

// draws are numbers below a bound that look random, and are the same each time.
func draws(seed uint64) func(below int) int {
	return func(below int) int {
		seed = seed*6364136223846793005 + 1442695040888963407
		return int(seed >> 33 % uint64(below))
	}
}

// The words of the chapter's section Words, written down as patterns.
const (
	numberForm = `(?:0|-?[1-9][0-9]{0,3})`
	countForm  = `(?:0|[1-9][0-9]{0,3})`
	regForm    = `r[1-8]`
	argForm    = `(?:` + numberForm + `|r[1-8](?:[+-][1-9][0-9]{0,3})?)`
)

// lineForms are patterns of all lines but those of a block's end.
func lineForms() *regexp.Regexp {
	var all []string
	for _, s := range []string{
		"get C A R", "put C A B", "del C A", "has C A R", "size C R", "ceil C A R", "range C A B R", "list C",
		"set R A", "add R A B", "if A B {", "loop N {", "atomic {", "or {", "retry", "abort",
	} {
		words := strings.Split(s, " ")
		for i, w := range words {
			switch w {
			case "C", "N":
				words[i] = countForm
			case "A", "B":
				words[i] = argForm
			case "R":
				words[i] = regForm
			case "{":
				words[i] = `\{`
			}
		}
		all = append(all, strings.Join(words, " +"))
	}
	return regexp.MustCompile(`^ *(?:` + strings.Join(all, "|") + `) *$`)
}

// firstWrong is the number of the first line that can't stand there; 0: there is none.
func firstWrong(form *regexp.Regexp, s string) int {
	lines := strings.Split(s, "\n")
	if lines[len(lines)-1] == "" {
		lines = lines[:len(lines)-1]
	}
	var open []string // of each block that is open, what may end it
	for i, line := range lines {
		line = strings.Join(strings.FieldsFunc(line, func(c rune) bool { return c == ' ' }), " ")
		last := len(open) - 1
		switch {
		case line == "":
		case line == "}" && last >= 0:
			open = open[:last]
		case line == "} else {" && last >= 0 && open[last] == "else":
			open[last] = "end"
		case line == "}" || line == "} else {" || !form.MatchString(line):
			return i + 1
		case line == "or {" || strings.HasPrefix(line, "if "):
			open = append(open, "else")
		case strings.HasSuffix(line, "{"):
			open = append(open, "end")
		}
	}
	if len(open) > 0 {
		return len(lines) + 1
	}
	return 0
}

// told is a transaction's text, whether it is right or not, written down in the plainest way.
func told(p []api.Stmt, ahead string) string {
	all := ""
	for _, s := range p {
		words := []string{"", "get C A R", "put C A B", "del C A", "has C A R", "size C R", "ceil C A R", "range C A B R", "list C",
			"set R A", "add R A B", "if A B {", "loop A {", "atomic {", "or {", "retry", "abort"}[s.Kind]
		line := ""
		for _, w := range words {
			switch w {
			case 'C':
				line += strconv.Itoa(s.Coll)
			case 'R':
				line += "r" + strconv.Itoa(s.Reg)
			case 'A':
				line += toldArg(s.A)
			case 'B':
				line += toldArg(s.B)
			default:
				line += string(w)
			}
		}
		all += ahead + line + "\n"
		if strings.HasSuffix(line, "{") {
			all += told(s.Body, ahead+"  ")
			if len(s.Else) > 0 {
				all += ahead + "} else {\n" + told(s.Else, ahead+"  ")
			}
			all += ahead + "}\n"
		}
	}
	return all
}

func toldArg(a api.Arg) string {
	n := strconv.Itoa(a.N)
	if a.Reg == 0 {
		return n
	}
	if a.N == 0 {
		n = ""
	} else if a.N > 0 {
		n = "+" + n
	}
	return "r" + strconv.Itoa(a.Reg) + n
}

// drawnArg draws an Arg whose number is within a bound.
func drawnArg(draw func(int) int, most int) api.Arg {
	a := api.Arg{Reg: max(0, draw(14)-5), N: draw(2*most+1) - most}
	switch draw(4) {
	case 0:
		a.N = 0
	case 1:
		a.N = draw(19) - 9
	}
	return a
}

// drawn draws statements that lie at most that deep; most: their numbers' bound.
func drawn(draw func(int) int, deep, most int) []api.Stmt {
	var p []api.Stmt
	for range draw(5) {
		s := api.Stmt{Kind: 1 + draw(16)}
		if s.Kind <= api.StList {
			s.Coll = draw(min(most, 8))
		}
		switch s.Kind {
		case api.StGet, api.StHas, api.StSize, api.StCeil, api.StRange, api.StSet, api.StAdd:
			s.Reg = 1 + draw(8)
		case api.StLoop:
			s.A.N = draw(6)
		}
		switch s.Kind {
		case api.StGet, api.StPut, api.StDel, api.StHas, api.StCeil, api.StRange, api.StSet, api.StAdd, api.StIf:
			s.A = drawnArg(draw, most)
		}
		switch s.Kind {
		case api.StPut, api.StRange, api.StAdd, api.StIf:
			s.B = drawnArg(draw, most)
		}
		if s.Kind >= api.StIf && s.Kind <= api.StOr && deep > 1 {
			s.Body = drawn(draw, deep-1, most)
		}
		if (s.Kind == api.StIf || s.Kind == api.StOr) && deep > 1 {
			s.Else = drawn(draw, deep-1, most)
		}
		p = append(p, s)
	}
	return p
}

// P10.1 to P10.4: transactions that are drawn, right or not, told and read.
func TestDrawn(t *testing.T) {
	draw := draws(10)
	printed := 0
	for i := range 6000 {
		most := []int{9, 999, 9999}[i%3]
		p := drawn(draw, 1+draw(8), most)
		s := told(p, "")
		if len(s) > api.MaxText {
			continue
		}
		wantRead(t, s, p)
		if err := prog.Right(p, 3, 3, 3, 3, 3, 3, 3, 3); err == nil {
			wantPrinted(t, p, s)
			printed++
		} else {
			_, got := text.Print(p)
			if got == nil || got.Error() != err.Error() {
				t.Errorf("Print(%v): %v, want %v", p, got, err)
			}
		}
		if t.Failed() {
			return
		}
	}
	if printed < 1000 {
		t.Errorf("%d transactions have a text, too few to tell by", printed)
	}
}

// P10.2, P10.5: blanks and empty lines that are drawn change nothing, but for the number of a line that can't stand there.
func TestDrawnBlanks(t *testing.T) {
	draw := draws(11)
	form := lineForms()
	wrong := 0
	for range 3000 {
		p := drawn(draw, 1+draw(4), 999)
		lines := strings.SplitAfter(told(p, ""), "\n")
		if draw(2) == 0 {
			lines = spoiled(draw, lines)
		}
		var s strings.Builder
		for _, line := range lines {
			s.WriteString(strings.Repeat("\n", max(0, draw(6)-4)) + strings.Repeat(" ", draw(4)))
			for _, c := range []byte(line) {
				s.WriteByte(c)
				if c == ' ' {
					s.WriteString(strings.Repeat(" ", max(0, draw(6)-3)))
				}
			}
		}
		if s.Len() > api.MaxText {
			continue
		}
		if line := firstWrong(form, s.String()); line > 0 {
			wrong++
			wantWrong(t, s.String(), line)
			continue
		}
		wantRead(t, s.String(), readPlainly(t, lines))
	}
	if wrong < 500 {
		t.Errorf("%d texts have a line that can't stand there, too few to tell by", wrong)
	}
}

// readPlainly reads lines without more blanks than there must be.
func readPlainly(t *testing.T, lines []string) []api.Stmt {
	t.Helper()
	p, err := text.Parse(strings.Join(lines, ""))
	if err != nil {
		t.Error(err)
	}
	return p
}

// spoiled are lines of which one is gone, twice there, another one, or other in a byte.
func spoiled(draw func(int) int, lines []string) []string {
	at := draw(len(lines))
	line := lines[at]
	switch draw(4) {
	case 0:
		line = ""
	case 1:
		line += line
	case 2:
		line = []string{"}\n", "} else {\n", "or {\n", "loop 1 {\n", "x\n"}[draw(5)]
	case 3:
		if i := draw(len(line) + 1); i < len(line) && line[i] != '\n' {
			line = line[:i] + string("r0189+-{} x"[draw(11)]) + line[i+1:]
		}
	}
	spoilt := append([]string{}, lines[:at]...)
	return append(append(spoilt, line), lines[at+1:]...)
}

// P10.2: all texts of up to six of some lines, with what they tell.
func TestAllShort(t *testing.T) {
	form := lineForms()
	lines := []string{"retry", "or {", "atomic {", "} else {", "}", ""}
	texts := []string{""}
	for range 6 {
		var longer []string
		for _, s := range texts {
			for _, line := range lines {
				longer = append(longer, s+line+"\n")
			}
		}
		texts = longer
		for _, s := range texts {
			wantSame(t, form, s)
			wantSame(t, form, s[:len(s)-1])
		}
		if t.Failed() {
			return
		}
	}
}

// wantSame holds what is read of a text against the plain way of reading it, and telling it.
func wantSame(t *testing.T, form *regexp.Regexp, s string) {
	t.Helper()
	if line := firstWrong(form, s); line > 0 {
		wantWrong(t, s, line)
		return
	}
	p, err := text.Parse(s)
	if err != nil {
		t.Errorf("Parse(%q): %v", s, err)
		return
	}
	plain := ""
	for _, line := range strings.Split(s, "\n") {
		if line = strings.Trim(line, " "); line != "" {
			plain += line + "\n"
		}
	}
	got := strings.ReplaceAll(told(p, ""), "  ", "")
	if got != strings.ReplaceAll(plain, "} else {\n}\n", "}\n") {
		t.Errorf("Parse(%q) = %v", s, p)
	}
}

// P10.2, Words: all words of up to six of some bytes, where a number, a register or an Arg stands.
func TestAllWords(t *testing.T) {
	count, reg := regexp.MustCompile(`^`+countForm+`$`), regexp.MustCompile(`^`+regForm+`$`)
	arg := regexp.MustCompile(`^` + argForm + `$`)
	words := []string{""}
	for range 6 {
		var longer []string
		for _, w := range words {
			for _, c := range "r019+-" {
				longer = append(longer, w+string(c))
			}
		}
		words = longer
		for _, w := range words {
			wantWord(t, w, count.MatchString(w), reg.MatchString(w), arg.MatchString(w))
		}
	}
	for c := range 256 {
		if c == ' ' || c == '\n' {
			continue
		}
		for _, w := range []string{string([]byte{byte(c)}), "r" + string([]byte{byte(c)}), "r1" + string([]byte{byte(c)}), "r1+" + string([]byte{byte(c)}), "-" + string([]byte{byte(c)})} {
			wantWord(t, w, count.MatchString(w), reg.MatchString(w), arg.MatchString(w))
		}
	}
	for _, w := range []string{"10000", "-10000", "99999", "r1+10000", "r1-10000", "9223372036854775808", "-9223372036854775809", "18446744073709551617", "r1+18446744073709551617", "1e1", "0x1", "1_0", "r1+0x1", "R1", "r11", "r1+1+1", "r1r1", "1r1", "1.0", "½"} {
		wantWord(t, w, false, false, false)
	}
}

// wantWord looks where a word may stand, and what it says there.
func wantWord(t *testing.T, w string, count, reg, arg bool) {
	t.Helper()
	var a api.Arg
	if number := w; arg {
		if w[0] == 'r' {
			a.Reg, number = int(w[1]-'0'), w[2:]
		}
		a.N, _ = strconv.Atoi(number)
	}
	for _, x := range []struct {
		line string
		may  bool
		s    api.Stmt
	}{
		{"list " + w, count, api.Stmt{Kind: api.StList, Coll: a.N}},
		{"loop " + w + " {\n}", count, api.Stmt{Kind: api.StLoop, A: a}},
		{"size 1 " + w, reg, api.Stmt{Kind: api.StSize, Coll: 1, Reg: a.Reg}},
		{"del 1 " + w, arg, api.Stmt{Kind: api.StDel, Coll: 1, A: a}},
		{"put 1 1 " + w, arg, api.Stmt{Kind: api.StPut, Coll: 1, A: number(1), B: a}},
	} {
		if x.may {
			wantRead(t, x.line, list(x.s))
		} else {
			wantWrong(t, x.line, 1)
		}
	}
}
