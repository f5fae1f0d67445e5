package sets

// before is what a cell had: whether it was written, and what.
type before struct {
	value   uint64
	written bool
}

// undo is the undo log of a mark: of each cell that was written behind it, what it had when it was set. A cell stands there once, so that the log is never longer than what was written.
type undo map[uint64]before

// note notes what a cell had; what was noted earlier is what it had when the mark was set.
func (u undo) note(cell uint64, was before) {
	if _, noted := u[cell]; !noted {
		u[cell] = was
	}
}

// add notes all of a later mark's log.
func (u undo) add(later undo) {
	for cell, was := range later {
		u.note(cell, was)
	}
}
