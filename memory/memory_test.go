package memory

import (
	"testing"

	"borrowing/api"
)

func cellsWith(kinds ...int) []Cell {
	var list []Cell
	for _, k := range kinds {
		list = append(list, Cell{Kind: k})
	}
	return list
}

func TestObjects(t *testing.T) {
	var s Store
	inner, _ := s.Make([]Cell{{Kind: Number, N: 5}})
	outer, ok := s.Make([]Cell{{Kind: Number, N: 7}, {Kind: Box, N: inner}, {}})
	if !ok || inner != 0 || outer != 1 || s.Whole(outer) != (Area{1, 0, 3}) {
		t.Fatalf("objects %d, %d, %v", inner, outer, s.Whole(outer))
	}
	if d := s.Missing(s.Whole(outer)); d != api.FNever {
		t.Errorf("a cell without a value: %d", d)
	}
	if d := s.Missing(Area{outer, 0, 2}); d != api.Ran {
		t.Errorf("cells with values: %d", d)
	}
	s.Take(Area{outer, 1, 1})
	s.Free(outer)
	if s.Gone(inner) || !s.Gone(outer) {
		t.Errorf("what was taken away is gone: %v; the object is gone: %v", s.Gone(inner), s.Gone(outer))
	}
	if got := s.ShowObjects(); got != "\n#0 5\n#1 gone" {
		t.Errorf("objects: %q", got)
	}
}

func TestListsAreCopied(t *testing.T) {
	var s Store
	given := []Cell{{Kind: Number, N: 5}}
	n, _ := s.Make(given)
	given[0].N = 6
	s.Read(s.Whole(n))[0].N = 7
	copied := s
	copied.Write(copied.Whole(n), []Cell{{Kind: Number, N: 8}})
	if got := s.ShowObjects(); got != "\n#0 5" {
		t.Errorf("objects: %q", got)
	}
}

// Areas and numbers that are none change nothing, and every call ends.
func TestWhatIsNotThere(t *testing.T) {
	var s Store
	s.Make(cellsWith(Never, Moved))
	for _, n := range []int{-1, 1, 47, 48, 1000} {
		s.Free(n)
		if !s.Gone(n) || s.Whole(n) != (Area{}) || s.Cut(n) {
			t.Errorf("object %d: gone %v, %v", n, s.Gone(n), s.Whole(n))
		}
	}
	for _, a := range []Area{{0, 0, 100}, {0, -5, 3}, {0, 6, 1}, {-1, 0, 2}, {1, 0, 1}, {50, 0, 1}, {0, 0, -1}} {
		s.Read(a)
		s.Missing(a)
		s.Touch(a, 5, true)
		s.Touch(a, -9, false)
	}
	for by := -2; by < 10; by++ {
		s.Lend(Area{0, 0, 2}, by, true)
	}
	s.Touch(Area{0, 0, 1}, 9, true)
	if got := s.ShowObjects(); got != "\n#0 - <" {
		t.Errorf("objects: %q", got)
	}
}
