// Package memory keeps the objects, cells and loans of a run (P12).
package memory

import "borrowing/api"

// What a cell holds. The first three are no values; a cell that was given nothing is the zero cell.
const (
	Never   = 0
	Moved   = 1
	Dropped = 2
	Number  = 3 // N
	Box     = 4 // the object N
	Ref     = 5 // the area At, by the loan N
)

// None stands for a loan where there is none.
const None = -1

// Cell is a cell, with what it holds.
type Cell struct {
	Kind, N int
	At      Area
}

// Area is a place in an object: some of its cells.
type Area struct {
	Object, First, Count int
}

type object struct {
	cells [api.MaxCells]Cell
	count int
	gone  bool
}

// Store is the memory of one run. It holds arrays and no slices, so that no two of them can share what they keep.
type Store struct {
	objects [api.MaxObject]object
	made    int
	loans   [api.MaxLoan]loan
	lent    int
}

// Make makes an object with these cells and tells its number; false: there are too many already.
func (s *Store) Make(cells []Cell) (int, bool) {
	if s.made < 0 || s.made >= len(s.objects) {
		return 0, false
	}
	fresh := object{}
	for i := 0; i < len(cells) && i < len(fresh.cells); i++ {
		fresh.cells[i] = cells[i]
		fresh.count++
	}
	s.objects[s.made] = fresh
	s.made++
	return s.made - 1, true
}

// Whole tells the area of all cells of an object.
func (s *Store) Whole(n int) Area {
	if !s.has(n) {
		return Area{}
	}
	return Area{Object: n, Count: s.objects[n].count}
}

// Gone tells whether an object is no longer there.
func (s *Store) Gone(n int) bool {
	return !s.has(n) || s.objects[n].gone
}

// Missing tells the fault of the first cell that has no value; Ran: each has one.
func (s *Store) Missing(a Area) int {
	cells := s.Read(a)
	for i := 0; i < len(cells); i++ {
		switch cells[i].Kind {
		case Never:
			return api.FNever
		case Moved:
			return api.FMoved
		case Dropped:
			return api.FDropped
		}
	}
	return api.Ran
}

// Read copies the cells of an area.
func (s *Store) Read(a Area) []Cell {
	var cells []Cell
	for i := 0; i < a.Count; i++ {
		if s.lies(a, i) {
			cells = append(cells, s.objects[a.Object].cells[a.First+i])
		}
	}
	return cells
}

// Write gives the cells of an area these values; what they owned is gone.
func (s *Store) Write(a Area, cells []Cell) {
	s.release(a)
	for i := 0; i < a.Count && i < len(cells); i++ {
		if s.lies(a, i) {
			s.objects[a.Object].cells[a.First+i] = cells[i]
		}
	}
}

// Take leaves the cells of an area without values: their new owner has them.
func (s *Store) Take(a Area) {
	s.empty(a, Moved)
}

// Drop leaves the cells of an area without values; what they owned is gone.
func (s *Store) Drop(a Area) {
	s.release(a)
	s.empty(a, Dropped)
}

// Free ends an object and what its cells own.
func (s *Store) Free(n int) {
	// An object is gone ahead of what it owns, so that this ends whatever the cells hold.
	if s.Gone(n) {
		return
	}
	s.objects[n].gone = true
	whole := s.Whole(n)
	s.release(whole)
}

func (s *Store) release(a Area) {
	cells := s.Read(a)
	for i := 0; i < len(cells); i++ {
		if cells[i].Kind == Box {
			s.Free(cells[i].N)
		}
	}
}

func (s *Store) empty(a Area, kind int) {
	for i := 0; i < a.Count; i++ {
		if s.lies(a, i) {
			s.objects[a.Object].cells[a.First+i] = Cell{Kind: kind}
		}
	}
}

func (s *Store) has(n int) bool {
	return n >= 0 && n < s.made && n < len(s.objects)
}

// lies tells whether an area's cell i is a cell of its object.
func (s *Store) lies(a Area, i int) bool {
	at := a.First + i
	return s.has(a.Object) && at >= 0 && at < len(s.objects[a.Object].cells)
}
