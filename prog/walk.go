package prog

import "concord/api"

// walker goes over a transaction's statements, in order.
type walker struct {
	look func(n, deep int, s api.Stmt) bool // whether it goes on; by a statement's number, and how deep it lies
	left []part
}

// part is what is still to be gone over of statements that lie side by side.
type part struct {
	rest []api.Stmt
	deep int
}

// over has each statement looked at, in order, as long as look answers true.
func over(p []api.Stmt, look func(n, deep int, s api.Stmt) bool) {
	w := walker{look: look}
	w.push(p, 1)
	for n := 1; len(w.left) > 0; n++ {
		s, deep := w.next()
		if !w.look(n, deep, s) {
			return
		}
		w.push(s.Else, deep+1)
		w.push(s.Body, deep+1)
	}
}

// push puts statements ahead of all that is left.
func (w *walker) push(p []api.Stmt, deep int) {
	if len(p) > 0 {
		w.left = append(w.left, part{p, deep})
	}
}

// next takes the first statement of what is left; there is one.
func (w *walker) next() (api.Stmt, int) {
	last := len(w.left) - 1
	x := w.left[last]
	if w.left[last].rest = x.rest[1:]; len(x.rest) == 1 {
		w.left = w.left[:last]
	}
	return x.rest[0], x.deep
}
