// Package moves finds what is used without a value (P16), and the reason (P22).
package moves

import (
	"borrowing/api"
	"borrowing/places"
	"borrowing/program"
	"borrowing/types"
)

// state tells of each cell of each variable whether it may have no value.
type state struct {
	lost []bool
}

// table has the states in which the points may be reached.
type table struct {
	program program.Program
	bases   []int // of each variable: how many cells of others stand ahead of its own
	ahead   []state
}

// First tells the first point that may find a cell without a value (-1: none does).
func First(p program.Program) int {
	t := start(p)
	t.spread()
	for i := 0; i < len(t.ahead); i++ {
		_, cell := t.pass(i)
		if cell >= 0 {
			return i
		}
	}
	return -1
}

func start(p program.Program) table {
	t := table{program: p}
	cells := 0
	for v := 0; v < len(p.Locals); v++ {
		t.bases = append(t.bases, cells)
		cells += types.Cells(p.Locals[v].Type)
	}
	for i := 0; i < len(p.Points); i++ {
		t.ahead = append(t.ahead, state{lost: make([]bool, cells)})
	}
	return t
}

// spread leads what is lost along the paths, until nothing more comes of it: each round but the last adds a cell to a state.
func (t *table) spread() {
	more := true
	for more {
		more = false
		for i := 0; i < len(t.ahead); i++ {
			behind, _ := t.pass(i)
			next, other := t.program.Ways(i)
			grown := t.join(next, behind)
			also := t.join(other, behind)
			more = more || grown || also
		}
	}
}

// join adds to the state ahead of a point, and tells whether that grew.
func (t *table) join(point int, from state) bool {
	if point < 0 || point >= len(t.ahead) {
		return false
	}
	to := t.ahead[point].lost
	grown := false
	for c := 0; c < len(to) && c < len(from.lost); c++ {
		if from.lost[c] && !to[c] {
			to[c] = true
			grown = true
		}
	}
	return grown
}

// pass tells the state behind a point, and the cell that the first of the point's needs may find without a value (-1: none does). Each need finds what the operands ahead of it have left.
func (t *table) pass(point int) (state, int) {
	if point < 0 || point >= len(t.ahead) || point >= len(t.program.Points) {
		return state{}, -1
	}
	now := state{lost: make([]bool, len(t.ahead[point].lost))}
	copy(now.lost, t.ahead[point].lost)
	cell := -1
	visits := t.program.Visits(point)
	for i := 0; i < len(visits); i++ {
		first, last := t.cover(visits[i].Place)
		if cell < 0 && needs(visits[i]) {
			cell = now.lacking(first, last)
		}
		now.visit(visits[i], first, last)
	}
	p := t.program.Points[point]
	if p.Kind == api.Let {
		first, last := t.cover(t.program.Place(p.DVar, ""))
		now.set(first, last, true)
	}
	return now, cell
}

// needs tells whether the cells that a visited place covers must have values.
func needs(v program.Visit) bool {
	return v.Uses() || v.Role == program.Dropped
}

// cover tells the first cell that a place covers and the one behind the last, among the cells of all variables.
func (t *table) cover(p places.Place) (int, int) {
	if p.Var < 0 || p.Var >= len(t.bases) {
		return 0, 0
	}
	first, count := p.Cover()
	first += t.bases[p.Var]
	return first, first + count
}

// lacking tells the first of some cells that may have no value (-1: all have one).
func (s *state) lacking(first, last int) int {
	for c := first; c < last && c < len(s.lost); c++ {
		if s.lost[c] {
			return c
		}
	}
	return -1
}

func (s *state) set(first, last int, lost bool) {
	for c := first; c < last && c < len(s.lost); c++ {
		s.lost[c] = lost
	}
}

// visit does what a visit does to cells. What is assigned to comes last, so that it has a value even if an operand took it away.
func (s *state) visit(v program.Visit, first, last int) {
	switch v.Role {
	case program.Moved, program.Dropped:
		s.set(first, last, true)
	case program.Given:
		if !v.Place.Behind() {
			s.set(first, last, false)
		}
	}
}
