package sets_test

import (
	"cmp"
	"slices"
	"testing"

	"concord/api"
	"concord/sets"
)

// plain is what sets are, written down in the plainest way: with each mark stands all that was written then.
type plain struct {
	reads  []api.Seen
	writes []api.Wrote
	marks  [][]api.Wrote
}

// seen is where a cell is among those that were read; -1: nowhere.
func (p *plain) seen(cell uint64) int {
	return slices.IndexFunc(p.reads, func(x api.Seen) bool { return x.Cell == cell })
}

// written is where a cell is among those that are written; -1: nowhere.
func (p *plain) written(cell uint64) int {
	return slices.IndexFunc(p.writes, func(x api.Wrote) bool { return x.Cell == cell })
}

func (p *plain) rising() []api.Wrote {
	return slices.SortedFunc(slices.Values(p.writes), func(x, y api.Wrote) int { return cmp.Compare(x.Cell, y.Cell) })
}

// run is sets beside what is written down of them. Each of its calls is done with both, and its answer looked at.
type run struct {
	t *testing.T
	s *sets.Sets
	plain
}

func (r *run) read(cell uint64, version int) {
	r.t.Helper()
	err := r.s.Read(cell, version)
	i := r.seen(cell)
	switch {
	case i >= 0 && r.reads[i].Version != version:
		wantFault(r.t, "Read", err, api.ErrConflict, i+1)
	case i < 0 && len(r.reads) == api.MaxSet:
		wantErr(r.t, "Read", err, api.ErrMany)
	case err != nil:
		r.t.Errorf("Read(%d, %d): %v", cell, version, err)
	case i < 0:
		r.reads = append(r.reads, saw(cell, version))
	}
}

func (r *run) write(cell, value uint64) {
	r.t.Helper()
	err := r.s.Write(cell, value)
	i := r.written(cell)
	switch {
	case i < 0 && len(r.writes) == api.MaxSet:
		wantErr(r.t, "Write", err, api.ErrMany)
	case err != nil:
		r.t.Errorf("Write(%d, %d): %v", cell, value, err)
	case i < 0:
		r.writes = append(r.writes, wrote(cell, value))
	default:
		r.writes[i].Value = value
	}
}

func (r *run) mark() {
	r.t.Helper()
	n, err := r.s.Mark()
	if len(r.marks) == api.MaxMarks {
		if n != 0 {
			r.t.Errorf("Mark = %d, want 0", n)
		}
		wantErr(r.t, "Mark", err, api.ErrDeep)
		return
	}
	r.marks = append(r.marks, slices.Clone(r.writes))
	if n != len(r.marks) || err != nil {
		r.t.Errorf("Mark = %d, %v, want %d", n, err, len(r.marks))
	}
}

func (r *run) keep(mark int) {
	r.t.Helper()
	if r.there("Keep", r.s.Keep(mark), mark) {
		r.marks = r.marks[:mark-1]
	}
}

func (r *run) back(mark int) {
	r.t.Helper()
	if r.there("Back", r.s.Back(mark), mark) {
		r.writes, r.marks = r.marks[mark-1], r.marks[:mark-1]
	}
}

// there tells whether a mark is there, and looks that an error tells just that.
func (r *run) there(what string, err error, mark int) bool {
	r.t.Helper()
	if mark < 1 || mark > len(r.marks) {
		wantFault(r.t, what, err, api.ErrNone, mark)
		return false
	}
	if err != nil {
		r.t.Errorf("%s(%d): %v", what, mark, err)
	}
	return true
}

// look looks that all is as it is written down.
func (r *run) look() {
	r.t.Helper()
	wantReads(r.t, r.s, r.reads...)
	wantWrites(r.t, r.s, r.rising()...)
}

// each looks that of each cell up to one just that is told which is written down.
func (r *run) each(last uint64) {
	r.t.Helper()
	for cell := range last {
		if r.seen(cell) < 0 {
			wantUnread(r.t, r.s, cell)
		}
		if r.written(cell) < 0 {
			wantUnwritten(r.t, r.s, cell)
		}
	}
}

// draws are numbers below a bound that look random, and are the same each time.
func draws(seed uint64) func(below int) int {
	return func(below int) int {
		seed = seed*6364136223846793005 + 1442695040888963407
		x := seed
		x ^= x >> 29
		x *= 0xBF58476D1CE4E5B9
		return int((x ^ x>>32) % uint64(below))
	}
}

// step does one call that is drawn. Of few cells each is written often; of many there get to be too many.
func (r *run) step(draw func(int) int, cells int) {
	r.t.Helper()
	mark := draw(len(r.marks)+2) + draw(len(r.marks)+2)/2
	switch n := draw(100); {
	case n < 25:
		r.read(uint64(draw(cells)), draw(20)/19)
	case n < 75:
		r.write(uint64(draw(cells)), uint64(draw(5)))
	case n < 89:
		r.mark()
	case n < 95:
		r.keep(mark)
	default:
		r.back(mark)
	}
}

// P7.1 to P7.7, P2: any run of calls does what it does to what is written down plainly.
func TestRunsOfCalls(t *testing.T) {
	for seed := range uint64(60) {
		draw := draws(seed)
		cells := []int{3, 10, 40}[draw(3)]
		r := &run{t: t, s: open(t)}
		for range 600 {
			r.step(draw, cells)
			r.look()
			r.each(uint64(cells))
			if t.Failed() {
				t.Fatalf("seed %d", seed)
			}
		}
	}
}

// P7.1, P7.3, P2: and so where there get to be too many cells, and too many marks.
func TestLongRunsOfCalls(t *testing.T) {
	full, deep := 0, 0
	for seed := range uint64(4) {
		draw := draws(100 + seed)
		r := &run{t: t, s: open(t)}
		for i := range 4000 {
			if r.step(draw, 1000); draw(30) > 0 && len(r.marks) > 0 && len(r.writes) < 400 {
				r.write(uint64(draw(1000)), uint64(draw(5)))
			}
			if draw(5) == 0 {
				r.mark()
			}
			if len(r.writes) == api.MaxSet {
				full++
			}
			if len(r.marks) == api.MaxMarks {
				deep++
			}
			if i%20 == 0 {
				r.look()
			}
			if t.Failed() {
				t.Fatalf("seed %d", seed)
			}
		}
		r.each(1000)
		if len(r.reads) != api.MaxSet {
			t.Errorf("seed %d: just %d cells were read", seed, len(r.reads))
		}
	}
	if full < 100 || deep < 100 {
		t.Errorf("%d times so many cells were written as may be, %d times there were so many marks", full, deep)
	}
}

// calls are some that have to do with marks.
func calls() []func(*run) {
	return []func(*run){
		func(r *run) { r.write(8, 1) },
		func(r *run) { r.write(8, 2) },
		func(r *run) { r.write(9, 3) },
		func(r *run) { r.mark() },
		func(r *run) { r.keep(1) },
		func(r *run) { r.keep(2) },
		func(r *run) { r.back(1) },
		func(r *run) { r.back(2) },
	}
}

// P7.1 to P7.3, P7.5, P7.6: all runs of six of some calls, behind three marks.
func TestAllShortRuns(t *testing.T) {
	all := calls()
	count := 1
	for range 6 {
		count *= len(all)
	}
	for n := range count {
		r := &run{t: t, s: open(t)}
		r.write(8, 0)
		for range 3 {
			r.mark()
		}
		for rest, i := n, 0; i < 6; i++ {
			all[rest%len(all)](r)
			rest /= len(all)
		}
		r.look()
		for mark := len(r.marks); mark >= 1; mark-- {
			r.back(mark)
			r.look()
		}
		if t.Failed() {
			t.Fatalf("run %d", n)
		}
	}
}

// P7.5: whatever is done behind a mark, Back leaves what was written as it was, and what was read stays.
func TestUndone(t *testing.T) {
	for seed := range uint64(200) {
		draw := draws(1000 + seed)
		s := open(t)
		some(s, draw, 0)
		was, mark := s.Writes(), markOf(t, s)
		some(s, draw, mark)
		reads := s.Reads()
		back(t, s, mark)
		wantWrites(t, s, was...)
		wantReads(t, s, reads...)
		wantMarks(t, s, mark-1)
		for cell := range uint64(12) {
			if !slices.ContainsFunc(was, func(x api.Wrote) bool { return x.Cell == cell }) {
				wantUnwritten(t, s, cell)
			}
		}
		if t.Failed() {
			t.Fatalf("seed %d", seed)
		}
	}
}

// P7.6: Keep changes nothing of what is written, or read.
func TestKept(t *testing.T) {
	for seed := range uint64(200) {
		draw := draws(2000 + seed)
		s := open(t)
		some(s, draw, 0)
		mark := markOf(t, s)
		some(s, draw, mark)
		reads, writes := s.Reads(), s.Writes()
		keep(t, s, mark)
		wantWrites(t, s, writes...)
		wantReads(t, s, reads...)
		wantMarks(t, s, mark-1)
		if t.Failed() {
			t.Fatalf("seed %d", seed)
		}
	}
}

func markOf(t *testing.T, s *sets.Sets) int {
	t.Helper()
	n, err := s.Mark()
	if err != nil {
		t.Fatalf("Mark: %v", err)
	}
	return n
}

// some does some calls that leave the marks up to one, whatever they answer; one more mark has room behind them.
func some(s *sets.Sets, draw func(int) int, marks int) {
	top := marks
	for range 40 {
		switch draw(8) {
		case 0:
			s.Read(uint64(draw(12)), draw(3))
		case 1:
			if top < marks+9 {
				top, _ = s.Mark()
			}
		case 2:
			if mark := marks + 1 + draw(5); s.Keep(mark) == nil {
				top = mark - 1
			}
		case 3:
			if mark := marks + 1 + draw(5); s.Back(mark) == nil {
				top = mark - 1
			}
		default:
			s.Write(uint64(draw(12)), uint64(draw(100)))
		}
	}
}
