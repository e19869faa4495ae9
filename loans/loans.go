// Package loans tells where loans are in scope (P19), and what conflicts with them (P20).
package loans

import (
	"borrowing/api"
	"borrowing/places"
	"borrowing/program"
	"borrowing/regions"
)

// loan is a point that borrows.
type loan struct {
	point int
	place places.Place // what is borrowed
	mut   bool
	scope []bool // of each point: whether the loan is in scope there
}

// First tells the first point that touches what is borrowed, and the loan's point (-1, -1: none does).
func First(p program.Program, m regions.Map) (int, int) {
	list := find(p, m)
	for i := 0; i < len(p.Points); i++ {
		visits := p.Visits(i)
		for k := 0; k < len(visits); k++ {
			at := touched(list, i, visits[k])
			if at >= 0 {
				return i, at
			}
		}
	}
	return -1, -1
}

// find tells the loans of a program, in the order of their points.
func find(p program.Program, m regions.Map) []loan {
	alive := live(p)
	var list []loan
	for i := 0; i < len(p.Points); i++ {
		at := p.Points[i]
		if at.Rv != api.Ref && at.Rv != api.Mut {
			continue
		}
		l := loan{point: i, place: p.Place(at.A.N, at.A.Proj), mut: at.Rv == api.Mut}
		holders := m.Holders(i)
		carried := alive.anyOf(holders, len(p.Points))
		l.scope = scope(p, l, carried)
		list = append(list, l)
	}
	return list
}

// touched tells the point of the first loan in scope with which a visit of a point conflicts (-1: there is none).
func touched(list []loan, point int, v program.Visit) int {
	for i := 0; i < len(list); i++ {
		if point < len(list[i].scope) && list[i].scope[point] && conflicts(v, list[i]) {
			return list[i].point
		}
	}
	return -1
}

func conflicts(v program.Visit, l loan) bool {
	if v.Place.Var != l.place.Var || !v.Written() && !l.mut || l.place.Shared() {
		return false
	}
	if !v.Place.Begins(l.place) {
		return l.place.Begins(v.Place)
	}
	return v.Operand() || !l.place.ThroughMut(len(v.Place.Steps))
}
