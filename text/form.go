package text

import (
	"strconv"
	"strings"

	"concord/api"
)

// forms are the lines of the kinds of statements: C and N are numbers that are not below 0, A and B Args, R is a register, and all else stands as it is.
var forms = [...]string{
	api.StGet:    "get C A R",
	api.StPut:    "put C A B",
	api.StDel:    "del C A",
	api.StHas:    "has C A R",
	api.StSize:   "size C R",
	api.StCeil:   "ceil C A R",
	api.StRange:  "range C A B R",
	api.StList:   "list C",
	api.StSet:    "set R A",
	api.StAdd:    "add R A B",
	api.StIf:     "if A B {",
	api.StLoop:   "loop N {",
	api.StAtomic: "atomic {",
	api.StOr:     "or {",
	api.StRetry:  "retry",
	api.StAbort:  "abort",
}

// maxNumber is the greatest number of four digits.
const maxNumber = 9999

// opens tells whether lines of a Body follow that of a statement.
func opens(kind int) bool { return strings.HasSuffix(forms[kind], "{") }

// hasElse tells whether those of an Else may follow, too.
func hasElse(kind int) bool { return kind == api.StIf || kind == api.StOr }

// line is a statement's line.
func line(s api.Stmt) string {
	words := strings.Fields(forms[s.Kind])
	for i, form := range words {
		words[i] = word(form, s)
	}
	return strings.Join(words, " ")
}

// word is what stands in a statement's line for a word of its form.
func word(form string, s api.Stmt) string {
	switch form {
	case "C":
		return written(api.Arg{N: s.Coll})
	case "R":
		return written(api.Arg{Reg: s.Reg})
	case "N":
		fallthrough
	case "A":
		return written(s.A)
	case "B":
		return written(s.B)
	}
	return form
}

// written is an Arg's word: of one without a register that of a number, of one without a number that of a register.
func written(a api.Arg) string {
	number := strconv.Itoa(a.N)
	switch {
	case a.Reg == 0:
		return number
	case a.N == 0:
		number = ""
	case a.N > 0:
		number = "+" + number
	}
	return "r" + strconv.Itoa(a.Reg) + number
}

// statement is what a line's words say, but for what lies in it.
func statement(words []string) (api.Stmt, bool) {
	for kind := api.StGet; kind < len(forms); kind++ {
		if s, ok := formed(kind, words); ok {
			return s, true
		}
	}
	return api.Stmt{}, false
}

// formed is what words of a kind's form say.
func formed(kind int, words []string) (api.Stmt, bool) {
	s := api.Stmt{Kind: kind}
	form := strings.Fields(forms[kind])
	if len(words) != len(form) {
		return s, false
	}
	for i, w := range words {
		if !take(form[i], w, &s) {
			return s, false
		}
	}
	return s, true
}

// take lets a statement have what a word says that stands for one of its form, if it may stand there.
func take(form, word string, s *api.Stmt) bool {
	a, ok := read(word)
	count := a.Reg == 0 && a.N >= 0
	switch form {
	case "C":
		s.Coll = a.N
		return ok && count
	case "R":
		s.Reg = a.Reg
		return ok && a.Reg > 0 && a.N == 0
	case "N":
		ok = ok && count
		fallthrough
	case "A":
		s.A = a
		return ok
	case "B":
		s.B = a
		return ok
	}
	return word == form
}

// read is the Arg whose word that is. What is no Arg's word, or is one in another form, is not what is written of what was made of it.
func read(word string) (api.Arg, bool) {
	var a api.Arg
	number := word
	if len(word) > 1 && word[0] == 'r' && '1' <= word[1] && word[1] <= '8' {
		a.Reg, number = int(word[1]-'0'), word[2:]
	}
	a.N, _ = strconv.Atoi(number)
	return a, -maxNumber <= a.N && a.N <= maxNumber && written(a) == word
}
