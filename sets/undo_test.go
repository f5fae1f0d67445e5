package sets

import (
	"testing"

	"concord/api"
)

// kept is how much is noted to be undone.
func kept(s *Sets) int {
	n := 0
	for _, log := range s.marks {
		n += len(log)
	}
	return n
}

// mark sets a mark, and writes three cells behind it, twice.
func mark(t *testing.T, s *Sets) {
	t.Helper()
	if _, err := s.Mark(); err != nil {
		t.Fatal(err)
	}
	for i := range uint64(6) {
		if err := s.Write(i%3, i); err != nil {
			t.Fatal(err)
		}
	}
}

// Rule 8 of the language: however often cells are written, and parts are kept or undone, of each cell no more is noted than one for a mark.
func TestLogStaysShort(t *testing.T) {
	for name, end := range map[string]func(*Sets, int) error{"Keep": (*Sets).Keep, "Back": (*Sets).Back} {
		s := New()
		mark(t, s)
		for range 100 {
			for range api.MaxMarks - 1 {
				mark(t, s)
			}
			if n := kept(s); n != 3*api.MaxMarks {
				t.Errorf("%s: %d are noted for %d marks", name, n, len(s.marks))
			}
			if err := end(s, 2); err != nil || kept(s) != 3 {
				t.Errorf("%s: %d are noted for one mark, %v", name, kept(s), err)
			}
		}
		if err := end(s, 1); err != nil || kept(s) != 0 {
			t.Errorf("%s: %d are noted without a mark, %v", name, kept(s), err)
		}
	}
}

// A refused Write notes nothing.
func TestRefusedIsNotNoted(t *testing.T) {
	s := New()
	for cell := range uint64(api.MaxSet) {
		if err := s.Write(cell, 1); err != nil {
			t.Fatal(err)
		}
	}
	if _, err := s.Mark(); err != nil {
		t.Fatal(err)
	}
	if err := s.Write(api.MaxSet, 1); err == nil || kept(s) != 0 {
		t.Errorf("%d are noted of what was refused with %v", kept(s), err)
	}
}
