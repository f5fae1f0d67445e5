package sets_test

import (
	"errors"
	"math"
	"slices"
	"testing"

	"concord/api"
	"concord/sets"
)

// saw is a cell with its version, in the order in which Read takes them.
func saw(cell uint64, version int) api.Seen { return api.Seen{Cell: cell, Version: version} }

// wrote is a cell with its value, in the order in which Write takes them.
func wrote(cell, value uint64) api.Wrote { return api.Wrote{Cell: cell, Value: value} }

// wantErr looks that an error is that one, and no other one, and names no place.
func wantErr(t *testing.T, what string, got error, want api.Errno) {
	t.Helper()
	for e := api.ErrNil; e <= api.ErrKind; e++ {
		if errors.Is(got, e) != (e == want) {
			t.Errorf("%s: %v, want %v", what, got, want)
			return
		}
	}
	var f *api.Fault
	if errors.As(got, &f) {
		t.Errorf("%s: %v names a place", what, got)
	}
}

// wantFault looks that an error is that one at that place, which may be 0.
func wantFault(t *testing.T, what string, got error, want api.Errno, place int) {
	t.Helper()
	var f *api.Fault
	if !errors.As(got, &f) || f == nil {
		t.Errorf("%s: %v is no Fault", what, got)
		return
	}
	if f.At != place || f.Err != want || api.Place(got) != place || !errors.Is(got, want) {
		t.Errorf("%s: %v, want %v at %d", what, got, want, place)
	}
}

func open(t *testing.T) *sets.Sets {
	t.Helper()
	s := sets.New()
	if s == nil {
		t.Fatal("New makes none")
	}
	return s
}

func read(t *testing.T, s *sets.Sets, all ...api.Seen) {
	t.Helper()
	for _, x := range all {
		if err := s.Read(x.Cell, x.Version); err != nil {
			t.Fatalf("Read(%d, %d): %v", x.Cell, x.Version, err)
		}
	}
}

func write(t *testing.T, s *sets.Sets, all ...api.Wrote) {
	t.Helper()
	for _, x := range all {
		if err := s.Write(x.Cell, x.Value); err != nil {
			t.Fatalf("Write(%d, %d): %v", x.Cell, x.Value, err)
		}
	}
}

func wantMark(t *testing.T, s *sets.Sets, want int) {
	t.Helper()
	if n, err := s.Mark(); n != want || err != nil {
		t.Fatalf("Mark = %d, %v, want %d", n, err, want)
	}
}

func keep(t *testing.T, s *sets.Sets, mark int) {
	t.Helper()
	if err := s.Keep(mark); err != nil {
		t.Fatalf("Keep(%d): %v", mark, err)
	}
}

func back(t *testing.T, s *sets.Sets, mark int) {
	t.Helper()
	if err := s.Back(mark); err != nil {
		t.Fatalf("Back(%d): %v", mark, err)
	}
}

// wantReads looks that just these cells were read, in this order, with their versions.
func wantReads(t *testing.T, s *sets.Sets, want ...api.Seen) {
	t.Helper()
	if all := s.Reads(); !slices.Equal(all, want) {
		t.Errorf("Reads = %v, want %v", all, want)
	}
	for _, x := range want {
		if v, ok := s.Version(x.Cell); v != x.Version || !ok {
			t.Errorf("Version(%d) = %d, %v, want %d, true", x.Cell, v, ok, x.Version)
		}
	}
}

// wantWrites looks that just these cells are written, in this order, with their values.
func wantWrites(t *testing.T, s *sets.Sets, want ...api.Wrote) {
	t.Helper()
	if all := s.Writes(); !slices.Equal(all, want) {
		t.Errorf("Writes = %v, want %v", all, want)
	}
	for _, x := range want {
		if v, ok := s.Get(x.Cell); v != x.Value || !ok {
			t.Errorf("Get(%d) = %d, %v, want %d, true", x.Cell, v, ok, x.Value)
		}
	}
}

// wantUnread looks that none of some cells was read.
func wantUnread(t *testing.T, s *sets.Sets, cells ...uint64) {
	t.Helper()
	for _, cell := range cells {
		if v, ok := s.Version(cell); v != 0 || ok {
			t.Errorf("Version(%d) = %d, %v, want 0, false", cell, v, ok)
		}
	}
}

// wantUnwritten looks that none of some cells is written.
func wantUnwritten(t *testing.T, s *sets.Sets, cells ...uint64) {
	t.Helper()
	for _, cell := range cells {
		if v, ok := s.Get(cell); v != 0 || ok {
			t.Errorf("Get(%d) = %d, %v, want 0, false", cell, v, ok)
		}
	}
}

// wantMarks looks that there are just so many marks, by setting one more and taking it away.
func wantMarks(t *testing.T, s *sets.Sets, want int) {
	t.Helper()
	n, err := s.Mark()
	if want == api.MaxMarks {
		if n != 0 {
			t.Errorf("Mark = %d, want 0", n)
		}
		wantErr(t, "Mark", err, api.ErrDeep)
		return
	}
	if n != want+1 || err != nil {
		t.Errorf("Mark = %d, %v, want %d", n, err, want+1)
	}
	keep(t, s, want+1)
}

// manyReads are as many cells as may be read, none of them a neighbour's version.
func manyReads() []api.Seen {
	var all []api.Seen
	for i := range api.MaxSet {
		all = append(all, saw(uint64(1000-i), 7*i))
	}
	return all
}

// manyWrites are as many cells as may be written, by rising cells.
func manyWrites() []api.Wrote {
	var all []api.Wrote
	for i := range api.MaxSet {
		all = append(all, wrote(uint64(10+i), uint64(3*i)))
	}
	return all
}

// The chapter's example.
func TestExample(t *testing.T) {
	s := open(t)
	write(t, s, wrote(8, 1))
	wantMark(t, s, 1)
	write(t, s, wrote(8, 2), wrote(9, 3))
	wantWrites(t, s, wrote(8, 2), wrote(9, 3))
	back(t, s, 1)
	wantWrites(t, s, wrote(8, 1))
	wantUnwritten(t, s, 9)
}

// New sets have nothing.
func TestNew(t *testing.T) {
	s := open(t)
	wantReads(t, s)
	wantWrites(t, s)
	wantUnread(t, s, 0, 1, math.MaxUint64)
	wantUnwritten(t, s, 0, 1, math.MaxUint64)
	wantMarks(t, s, 0)
}

// P7.1, P7.2, P7.4: what was read is behind all, with its version, whatever the numbers are.
func TestRead(t *testing.T) {
	s := open(t)
	read(t, s, saw(8, 1))
	wantReads(t, s, saw(8, 1))
	read(t, s, saw(3, 1))
	wantReads(t, s, saw(8, 1), saw(3, 1))
	read(t, s, saw(5, 0), saw(math.MaxUint64, api.MaxVersion), saw(0, -1), saw(1<<63, math.MinInt), saw(1, math.MaxInt))
	wantReads(t, s, saw(8, 1), saw(3, 1), saw(5, 0), saw(math.MaxUint64, api.MaxVersion), saw(0, -1), saw(1<<63, math.MinInt), saw(1, math.MaxInt))
	wantUnread(t, s, 2, 4, 7, 9, 1<<63-1, 1<<63+1, math.MaxUint64-1)
}

// P7.1: a cell that was read is read again with the same version, as often as one likes; it stays where it is.
func TestReadAgain(t *testing.T) {
	s := open(t)
	read(t, s, saw(8, 1), saw(3, 0), saw(0, 2))
	for range 3 {
		read(t, s, saw(3, 0), saw(0, 2), saw(8, 1))
		wantReads(t, s, saw(8, 1), saw(3, 0), saw(0, 2))
	}
}

// P7.1, P2: a cell that was read with another version is refused, at its place among those that were read.
func TestReadOfAnotherVersion(t *testing.T) {
	s := open(t)
	all := []api.Seen{saw(8, 1), saw(3, 0), saw(0, -2), saw(9, 5)}
	read(t, s, all...)
	for i, x := range all {
		for _, version := range []int{x.Version + 1, x.Version - 1, -x.Version - 1, math.MinInt, math.MaxInt} {
			wantFault(t, "Read", s.Read(x.Cell, version), api.ErrConflict, i+1)
			wantReads(t, s, all...)
		}
	}
	read(t, s, all...)
	wantReads(t, s, all...)
}

// P7.1, P2: MaxSet cells are read at the most; one that was read is told first.
func TestReadOfTooMany(t *testing.T) {
	s := open(t)
	all := manyReads()
	for i, x := range all {
		read(t, s, x)
		wantReads(t, s, all[:i+1]...)
	}
	for _, cell := range []uint64{0, 1, 500, 1001, math.MaxUint64} {
		wantErr(t, "Read of one too many", s.Read(cell, 1), api.ErrMany)
		wantErr(t, "Read of one too many", s.Read(cell, 0), api.ErrMany)
		wantUnread(t, s, cell)
	}
	for i, x := range all {
		read(t, s, x)
		wantFault(t, "Read", s.Read(x.Cell, x.Version+1), api.ErrConflict, i+1)
	}
	wantReads(t, s, all...)
}

// P7.1, P7.2, P7.4: what is written has the value that came last, and is told by rising cells.
func TestWrite(t *testing.T) {
	s := open(t)
	write(t, s, wrote(8, 1))
	wantWrites(t, s, wrote(8, 1))
	write(t, s, wrote(3, 4))
	wantWrites(t, s, wrote(3, 4), wrote(8, 1))
	write(t, s, wrote(8, 0))
	wantWrites(t, s, wrote(3, 4), wrote(8, 0))
	write(t, s, wrote(8, 0), wrote(3, math.MaxUint64), wrote(5, 5))
	wantWrites(t, s, wrote(3, math.MaxUint64), wrote(5, 5), wrote(8, 0))
	wantUnwritten(t, s, 0, 2, 4, 6, 7, 9, math.MaxUint64)
}

// P7.4: cells rise as words do, not as numbers below 0 would.
func TestWritesRise(t *testing.T) {
	s := open(t)
	write(t, s, wrote(math.MaxUint64, 1), wrote(1<<63, 2), wrote(1<<63-1, 3), wrote(1<<32, 4), wrote(0, 5), wrote(1<<63+1, 6), wrote(2, 7), wrote(10, 8))
	wantWrites(t, s, wrote(0, 5), wrote(2, 7), wrote(10, 8), wrote(1<<32, 4), wrote(1<<63-1, 3), wrote(1<<63, 2), wrote(1<<63+1, 6), wrote(math.MaxUint64, 1))
}

// P7.1, P2: MaxSet cells are written at the most; one that is written may have another value.
func TestWriteOfTooMany(t *testing.T) {
	s := open(t)
	all := manyWrites()
	for i, x := range slices.Backward(all) {
		write(t, s, x)
		wantWrites(t, s, all[i:]...)
	}
	for _, cell := range []uint64{0, 9, 510, math.MaxUint64} {
		wantErr(t, "Write of one too many", s.Write(cell, 1), api.ErrMany)
		wantErr(t, "Write of one too many", s.Write(cell, 0), api.ErrMany)
		wantUnwritten(t, s, cell)
	}
	wantWrites(t, s, all...)
	for i := range all {
		all[i].Value += 5
		write(t, s, all[i])
	}
	wantWrites(t, s, all...)
}

// P7.1, P7.3: behind a mark there is no more room, and what is refused there is not undone either.
func TestWriteOfTooManyBehindAMark(t *testing.T) {
	s := open(t)
	all := manyWrites()
	write(t, s, all[1:]...)
	wantMark(t, s, 1)
	write(t, s, all[0])
	wantErr(t, "Write", s.Write(5, 1), api.ErrMany)
	wantMark(t, s, 2)
	wantErr(t, "Write", s.Write(5, 1), api.ErrMany)
	wantWrites(t, s, all...)
	keep(t, s, 2)
	wantErr(t, "Write", s.Write(5, 1), api.ErrMany)
	wantWrites(t, s, all...)
	back(t, s, 1)
	wantWrites(t, s, all[1:]...)
	wantUnwritten(t, s, 5, all[0].Cell)
	write(t, s, wrote(5, 1))
	wantErr(t, "Write", s.Write(all[0].Cell, 1), api.ErrMany)
	wantWrites(t, s, append([]api.Wrote{wrote(5, 1)}, all[1:]...)...)
}

// P7.1, P7.2: what was read and what is written are apart, and there may be as many of each.
func TestReadsAndWritesApart(t *testing.T) {
	s := open(t)
	read(t, s, saw(8, 1))
	wantUnwritten(t, s, 8)
	write(t, s, wrote(8, 2), wrote(9, 3))
	wantUnread(t, s, 9)
	wantReads(t, s, saw(8, 1))
	read(t, s, saw(9, 4))
	wantWrites(t, s, wrote(8, 2), wrote(9, 3))
	s = open(t)
	read(t, s, manyReads()...)
	write(t, s, manyWrites()...)
	wantReads(t, s, manyReads()...)
	wantWrites(t, s, manyWrites()...)
}

// P7.3: marks are numbered from 1 on; MaxMarks is how many there are at the most.
func TestMark(t *testing.T) {
	s := open(t)
	read(t, s, saw(1, 2))
	for n := 1; n <= api.MaxMarks; n++ {
		write(t, s, wrote(8, uint64(n)))
		wantMark(t, s, n)
		wantWrites(t, s, wrote(8, uint64(n)))
		wantReads(t, s, saw(1, 2))
	}
	write(t, s, wrote(8, 100))
	for range 3 {
		n, err := s.Mark()
		if n != 0 {
			t.Errorf("Mark = %d, want 0", n)
		}
		wantErr(t, "Mark of one too many", err, api.ErrDeep)
		wantWrites(t, s, wrote(8, 100))
	}
	wantFault(t, "Keep of one that was refused", s.Keep(api.MaxMarks+1), api.ErrNone, api.MaxMarks+1)
	wantFault(t, "Back to one that was refused", s.Back(api.MaxMarks+1), api.ErrNone, api.MaxMarks+1)
	for n := api.MaxMarks; n >= 1; n-- {
		back(t, s, n)
		wantWrites(t, s, wrote(8, uint64(n)))
	}
	wantMarks(t, s, 0)
}

// P7.3: where a mark went there is room for one, with the same number.
func TestMarkAgain(t *testing.T) {
	for _, end := range []func(*testing.T, *sets.Sets, int){keep, back} {
		for n := 1; n <= api.MaxMarks; n++ {
			s := open(t)
			for i := 1; i <= api.MaxMarks; i++ {
				wantMark(t, s, i)
			}
			end(t, s, n)
			for i := n; i <= api.MaxMarks; i++ {
				wantMark(t, s, i)
			}
			wantMarks(t, s, api.MaxMarks)
		}
	}
}

// P7.3, P2: of no such mark; the place is the mark, also if it is 0.
func TestOfNoMark(t *testing.T) {
	for marks := range 4 {
		s := open(t)
		read(t, s, saw(8, 1))
		for n := 1; n <= marks; n++ {
			wantMark(t, s, n)
			write(t, s, wrote(uint64(n), 5))
		}
		was := s.Writes()
		for _, mark := range []int{0, -1, -marks, marks + 1, marks + 2, api.MaxMarks, api.MaxMarks + 1, math.MinInt, math.MaxInt} {
			wantFault(t, "Keep", s.Keep(mark), api.ErrNone, mark)
			wantFault(t, "Back", s.Back(mark), api.ErrNone, mark)
			wantWrites(t, s, was...)
			wantReads(t, s, saw(8, 1))
		}
		wantMarks(t, s, marks)
		for n := marks; n >= 1; n-- {
			back(t, s, n)
			wantWrites(t, s, was[:n-1]...)
		}
	}
}

// P7.3: a mark that is kept or gone back to is gone, and all behind it; those ahead of it are not.
func TestMarksBehindAreGone(t *testing.T) {
	for _, end := range []func(*testing.T, *sets.Sets, int){keep, back} {
		for mark := 1; mark <= 4; mark++ {
			s := open(t)
			for n := 1; n <= 4; n++ {
				wantMark(t, s, n)
			}
			end(t, s, mark)
			for n := mark; n <= 4; n++ {
				wantFault(t, "Keep", s.Keep(n), api.ErrNone, n)
				wantFault(t, "Back", s.Back(n), api.ErrNone, n)
			}
			wantMarks(t, s, mark-1)
		}
	}
}

// P7.3, P7.6: what is kept stays as it is, and is undone by a mark further ahead.
func TestKeep(t *testing.T) {
	s := open(t)
	write(t, s, wrote(8, 1), wrote(7, 1))
	read(t, s, saw(1, 1))
	wantMark(t, s, 1)
	write(t, s, wrote(8, 2), wrote(9, 2))
	wantMark(t, s, 2)
	write(t, s, wrote(8, 3), wrote(9, 3), wrote(10, 3))
	read(t, s, saw(2, 2))
	wantMark(t, s, 3)
	write(t, s, wrote(8, 4), wrote(11, 4))
	keep(t, s, 2)
	wantWrites(t, s, wrote(7, 1), wrote(8, 4), wrote(9, 3), wrote(10, 3), wrote(11, 4))
	wantReads(t, s, saw(1, 1), saw(2, 2))
	wantMarks(t, s, 1)
	back(t, s, 1)
	wantWrites(t, s, wrote(7, 1), wrote(8, 1))
	wantReads(t, s, saw(1, 1), saw(2, 2))
	wantUnwritten(t, s, 9, 10, 11)
}

// P7.3: of the first mark, nothing is left to go back to; a new one begins at what is written then.
func TestKeepOfTheFirst(t *testing.T) {
	s := open(t)
	write(t, s, wrote(8, 1))
	wantMark(t, s, 1)
	write(t, s, wrote(8, 2), wrote(9, 2))
	wantMark(t, s, 2)
	write(t, s, wrote(9, 3))
	keep(t, s, 1)
	wantWrites(t, s, wrote(8, 2), wrote(9, 3))
	wantMark(t, s, 1)
	write(t, s, wrote(8, 4), wrote(9, 4), wrote(10, 4))
	back(t, s, 1)
	wantWrites(t, s, wrote(8, 2), wrote(9, 3))
}

// P7.3: what was written is as it was when the mark was set, however often it was written, also if it had that value ahead.
func TestBack(t *testing.T) {
	s := open(t)
	write(t, s, wrote(8, 1), wrote(7, 0))
	wantMark(t, s, 1)
	write(t, s, wrote(8, 2), wrote(8, 3), wrote(7, 0), wrote(7, 1), wrote(9, 0), wrote(9, 1), wrote(6, 0), wrote(8, 1), wrote(8, 4))
	back(t, s, 1)
	wantWrites(t, s, wrote(7, 0), wrote(8, 1))
	wantUnwritten(t, s, 6, 9)
	wantMark(t, s, 1)
	back(t, s, 1)
	wantWrites(t, s, wrote(7, 0), wrote(8, 1))
}

// P7.3: back over several marks, some of them with nothing behind them.
func TestBackOverSeveral(t *testing.T) {
	for mark := 1; mark <= 5; mark++ {
		s := open(t)
		wantMark(t, s, 1)
		write(t, s, wrote(8, 1))
		wantMark(t, s, 2)
		wantMark(t, s, 3)
		write(t, s, wrote(8, 2), wrote(9, 2))
		wantMark(t, s, 4)
		write(t, s, wrote(9, 3), wrote(8, 3), wrote(10, 3))
		wantMark(t, s, 5)
		back(t, s, mark)
		switch mark {
		case 1:
			wantWrites(t, s)
		case 2, 3:
			wantWrites(t, s, wrote(8, 1))
		case 4:
			wantWrites(t, s, wrote(8, 2), wrote(9, 2))
		default:
			wantWrites(t, s, wrote(8, 3), wrote(9, 3), wrote(10, 3))
		}
	}
}

// P7.3: what was written behind a mark that was gone back to is not undone once more by one ahead.
func TestBackAndOn(t *testing.T) {
	s := open(t)
	write(t, s, wrote(8, 1))
	wantMark(t, s, 1)
	wantMark(t, s, 2)
	write(t, s, wrote(8, 2), wrote(9, 2))
	back(t, s, 2)
	write(t, s, wrote(8, 3))
	wantWrites(t, s, wrote(8, 3))
	wantMark(t, s, 2)
	write(t, s, wrote(8, 4))
	back(t, s, 2)
	wantWrites(t, s, wrote(8, 3))
	back(t, s, 1)
	wantWrites(t, s, wrote(8, 1))
}

// P7.3: where cells went there is room for others.
func TestRoomAgain(t *testing.T) {
	s := open(t)
	all := manyWrites()
	wantMark(t, s, 1)
	write(t, s, all...)
	back(t, s, 1)
	wantWrites(t, s)
	for i := range all {
		all[i].Cell += 1 << 40
	}
	write(t, s, all...)
	wantErr(t, "Write", s.Write(10, 1), api.ErrMany)
	wantWrites(t, s, all...)
}

// P7.3, P7.7: what was read stays, also over MaxSet of them, and whatever becomes of marks.
func TestReadsStay(t *testing.T) {
	s := open(t)
	all := manyReads()
	for i, x := range all {
		switch i % 3 {
		case 0:
			wantMark(t, s, 1)
			read(t, s, x)
			back(t, s, 1)
		case 1:
			wantMark(t, s, 1)
			read(t, s, x)
			wantMark(t, s, 2)
			read(t, s, all[:i+1]...)
			keep(t, s, 1)
		default:
			read(t, s, x)
		}
		wantReads(t, s, all[:i+1]...)
		wantFault(t, "Read", s.Read(x.Cell, x.Version-1), api.ErrConflict, i+1)
	}
	wantErr(t, "Read", s.Read(1, 1), api.ErrMany)
}

// Rule 3: what is handed out is the caller's own.
func TestHandedOut(t *testing.T) {
	s := open(t)
	read(t, s, saw(1, 1), saw(2, 2), saw(3, 3))
	write(t, s, wrote(4, 4), wrote(5, 5), wrote(6, 6))
	reads, writes := s.Reads(), s.Writes()
	for i := range 3 {
		reads[i], writes[i] = saw(9, 9), wrote(9, 9)
	}
	reads, writes = append(s.Reads(), saw(7, 7)), append(s.Writes(), wrote(8, 8))
	wantReads(t, s, saw(1, 1), saw(2, 2), saw(3, 3))
	wantWrites(t, s, wrote(4, 4), wrote(5, 5), wrote(6, 6))
	wantMark(t, s, 1)
	read(t, s, saw(9, 1))
	write(t, s, wrote(4, 1), wrote(1, 1))
	if want := []api.Seen{saw(1, 1), saw(2, 2), saw(3, 3), saw(7, 7)}; !slices.Equal(reads, want) {
		t.Errorf("what Reads told is %v then, want %v", reads, want)
	}
	if want := []api.Wrote{wrote(4, 4), wrote(5, 5), wrote(6, 6), wrote(8, 8)}; !slices.Equal(writes, want) {
		t.Errorf("what Writes told is %v then, want %v", writes, want)
	}
	s.Reads()[0] = saw(9, 9)
	s.Writes()[0] = wrote(9, 9)
	wantReads(t, s, saw(1, 1), saw(2, 2), saw(3, 3), saw(9, 1))
	back(t, s, 1)
	wantWrites(t, s, wrote(4, 4), wrote(5, 5), wrote(6, 6))
}

// What is done with one is not done with another one.
func TestApart(t *testing.T) {
	s, other := open(t), open(t)
	read(t, s, saw(1, 1))
	write(t, s, wrote(1, 1))
	wantMark(t, s, 1)
	write(t, s, wrote(1, 2))
	read(t, other, saw(1, 2))
	wantMarks(t, other, 0)
	write(t, other, wrote(1, 3))
	back(t, s, 1)
	wantReads(t, s, saw(1, 1))
	wantReads(t, other, saw(1, 2))
	wantWrites(t, s, wrote(1, 1))
	wantWrites(t, other, wrote(1, 3))
}

// Rule 4: of sets that no call made.
func TestNil(t *testing.T) {
	for _, s := range []*sets.Sets{nil, {}} {
		wantErr(t, "Read", s.Read(1, 1), api.ErrNil)
		wantErr(t, "Write", s.Write(1, 1), api.ErrNil)
		n, err := s.Mark()
		if n != 0 {
			t.Errorf("Mark = %d, want 0", n)
		}
		wantErr(t, "Mark", err, api.ErrNil)
		for _, mark := range []int{0, 1, -1, math.MinInt, math.MaxInt} {
			wantErr(t, "Keep", s.Keep(mark), api.ErrNil)
			wantErr(t, "Back", s.Back(mark), api.ErrNil)
		}
		wantReads(t, s)
		wantWrites(t, s)
		wantUnread(t, s, 0, 1)
		wantUnwritten(t, s, 0, 1)
	}
}
