package meta

import (
	"concord/api"
	"concord/thread"
)

// NewClock makes a clock.
func NewClock(c *thread.Ctx) (uint64, error) {
	return c.Alloc(1)
}

// Now is what it shows.
func Now(c *thread.Ctx, clock uint64) (int, error) {
	w, err := c.Load(clock, 0)
	return int(w), err
}

// Tick lets it go on.
func Tick(c *thread.Ctx, clock uint64) (int, error) {
	times := 0
anew:
	if times == mostTimes {
		return 0, refused{"Tick", api.ErrConflict}
	}
	times++
	w, err := c.Load(clock, 0)
	if err != nil {
		return 0, err
	}
	done, err := c.CAS(clock, 0, w, w+1)
	if err != nil {
		return 0, err
	}
	if !done {
		goto anew
	}
	return int(w + 1), nil
}
