package text

import (
	"strings"

	"concord/api"
)

// The ends of a block, as it is read.
const (
	endNone   = iota // at none: a line can't stand there
	endText          // behind the text's last line
	endElse          // at } else {
	endClosed        // at }
)

// reader reads a text, line by line.
type reader struct {
	rest string
	line int // the number of the line that was read last; at the text's end that of the one behind
}

// block reads statements that lie side by side, and tells how they end.
func (r *reader) block() ([]api.Stmt, int) {
	var p []api.Stmt
	for {
		words := r.next()
		if end := ended(words); end != endNone {
			return p, end
		}
		s, ok := statement(words)
		if !ok || opens(s.Kind) && !r.within(&s) {
			return nil, endNone
		}
		p = append(p, s)
	}
}

// within reads what lies in a statement, up to its }, if that is there.
func (r *reader) within(s *api.Stmt) bool {
	var end int
	s.Body, end = r.block()
	if end == endElse && hasElse(s.Kind) {
		s.Else, end = r.block()
	}
	return end == endClosed
}

// next are the words of the next line that has some; there are none behind the last one.
func (r *reader) next() []string {
	for r.rest != "" {
		var line string
		line, r.rest, _ = strings.Cut(r.rest, "\n")
		r.line++
		if words := strings.FieldsFunc(line, blank); len(words) > 0 {
			return words
		}
	}
	r.line++
	return nil
}

func blank(c rune) bool { return c == ' ' }

// ended tells which end of a block a line's words are.
func ended(words []string) int {
	switch strings.Join(words, " ") {
	case "":
		return endText
	case "} else {":
		return endElse
	case "}":
		return endClosed
	}
	return endNone
}
