package thread

import (
	"concord/api"
	"concord/blocks"
)

// Ctx is what a body does accesses by, in one step.
type Ctx struct {
	thread *Thread
	next   int  // the entry of the log that the next access is, or will be
	over   bool // the step's own access was done
}

// Load is a block's word.
func (c *Ctx) Load(ref uint64, i int) (uint64, error) {
	e, err := c.access(func(b *blocks.Blocks) (api.Entry, error) {
		x, err := b.Load(ref, i)
		return api.Entry{Kind: api.EntryLoad, Ref: ref, I: i, Word: x}, err
	})
	return e.Word, err
}

// Store makes it another one.
func (c *Ctx) Store(ref uint64, i int, x uint64) error {
	_, err := c.access(func(b *blocks.Blocks) (api.Entry, error) {
		err := b.Store(ref, i, x)
		return api.Entry{Kind: api.EntryStore, Ref: ref, I: i, Word: x}, err
	})
	return err
}

// CAS makes it another one, if it is what is expected.
func (c *Ctx) CAS(ref uint64, i int, old, next uint64) (bool, error) {
	e, err := c.access(func(b *blocks.Blocks) (api.Entry, error) {
		done, err := b.CAS(ref, i, old, next)
		return api.Entry{Kind: api.EntryCAS, Ref: ref, I: i, Word: next, Done: done}, err
	})
	return e.Done, err
}

// Alloc gives out a block.
func (c *Ctx) Alloc(n int) (uint64, error) {
	e, err := c.access(func(b *blocks.Blocks) (api.Entry, error) {
		ref, err := b.Alloc(n)
		return api.Entry{Kind: api.EntryAlloc, Ref: ref, I: n}, err
	})
	return e.Ref, err
}

// Free takes one back.
func (c *Ctx) Free(ref uint64) error {
	_, err := c.access(func(b *blocks.Blocks) (api.Entry, error) {
		err := b.Free(ref)
		return api.Entry{Kind: api.EntryFree, Ref: ref}, err
	})
	return err
}

// Left is how many more entries the log may have. It counts from where the body is, not from the log's end: that goes on from step to step, and a body that hangs on it would not be told the same each time.
func (c *Ctx) Left() int {
	if c.none() {
		return 0
	}
	return api.MaxLog - c.next
}

// none tells whether no step made it.
func (c *Ctx) none() bool {
	return c == nil || c.thread == nil
}

// access answers what the log says of the body's next access, or does it, if it is the first one beyond the log.
func (c *Ctx) access(do func(b *blocks.Blocks) (api.Entry, error)) (api.Entry, error) {
	if c.none() {
		return api.Entry{}, api.ErrNil
	}
	t := c.thread
	if c.next >= len(t.log) {
		switch {
		case c.over:
			return api.Entry{}, api.ErrYield
		case len(t.log) >= api.MaxLog:
			return api.Entry{}, api.ErrCapped
		}
		c.over = true
		t.note(do(t.blocks))
	}
	c.next++
	return t.answer(c.next - 1)
}

// close ends the step for whoever kept the Ctx: it is beyond every log, and nothing is done by it any more.
func (c *Ctx) close() {
	c.next = api.MaxLog
	c.over = true
}
