// Package loans tells where loans are in scope (P19), what conflicts with them (P20), and the reason (P22).
package loans

import (
	"borrowing/api"
	"borrowing/paths"
	"borrowing/places"
	"borrowing/program"
	"borrowing/regions"
)

// loan is a point that borrows.
type loan struct {
	point   int
	place   places.Place // what is borrowed
	mut     bool
	carried []bool       // of each point: whether the loan is carried there
	reached paths.Search // from the loan on, as long as it is carried and what is borrowed is still the same
}

// First tells the first point that touches what is borrowed, and the loan's point (-1, -1: none does).
func First(p program.Program, m regions.Map) (int, int) {
	list := find(p, m)
	for i := 0; i < len(p.Points); i++ {
		visits := p.Visits(i)
		for k := 0; k < len(visits); k++ {
			at := touched(list, i, visits[k])
			if at >= 0 {
				return i, at
			}
		}
	}
	return -1, -1
}

// find tells the loans of a program, in the order of their points.
func find(p program.Program, m regions.Map) []loan {
	alive := live(p)
	var list []loan
	for i := 0; i < len(p.Points); i++ {
		if p.Points[i].Rv == api.Ref || p.Points[i].Rv == api.Mut {
			carried := alive.anyOf(m.Holders(i), len(p.Points))
			list = append(list, lend(p, i, carried))
		}
	}
	return list
}

// lend tells the loan of a point that borrows.
func lend(p program.Program, point int, carried []bool) loan {
	at := p.Points[point]
	l := loan{point: point, place: p.Place(at.A.N, at.A.Proj), mut: at.Rv == api.Mut, carried: carried}
	starts := make([]bool, len(p.Points))
	over := make([]bool, len(p.Points))
	for i := 0; i < len(over); i++ {
		same := !p.Renews(i, l.place.Var)
		starts[i] = i == point && same
		over[i] = paths.In(carried, i) && same
	}
	l.reached = paths.From(p, starts, over)
	return l
}

func (l *loan) inScope(point int) bool {
	return paths.In(l.carried, point) && l.reached.Reached(point)
}

// touched tells the point of the first loan in scope with which a visit of a point conflicts (-1: there is none).
func touched(list []loan, point int, v program.Visit) int {
	for i := 0; i < len(list); i++ {
		if list[i].inScope(point) && conflicts(v, list[i]) {
			return list[i].point
		}
	}
	return -1
}

func conflicts(v program.Visit, l loan) bool {
	if v.Place.Var != l.place.Var || !v.Written() && !l.mut || l.place.Shared() {
		return false
	}
	if !v.Place.Begins(l.place) {
		return l.place.Begins(v.Place)
	}
	return v.Operand() || !l.place.ThroughMut(len(v.Place.Steps))
}
