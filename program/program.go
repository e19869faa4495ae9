// Package program holds a program's graph, and tells what its points do with places: for the rules of moves, regions and loans alike.
package program

import (
	"borrowing/api"
	"borrowing/places"
	"borrowing/types"
)

// Program is the graph of a text.
type Program struct {
	Points []api.Point
	Locals []api.Local
	Funcs  []api.Func
}

// What a point does with a place.
const (
	Read    = 1 // it is an operand that is copied, or borrowed by &
	Moved   = 2 // it is an operand that is moved
	Lent    = 3 // it is borrowed by &mut
	Given   = 4 // it is assigned to
	Dropped = 5 // it is dropped
	Ended   = 6 // it is a variable at its end
)

// Visit is a place to which a point comes.
type Visit struct {
	Place places.Place
	Role  int
}

// Operand tells whether the place is an operand; else it is what the point assigns to, drops or ends.
func (v Visit) Operand() bool {
	return v.Role <= Lent
}

// Written tells whether the place is written; else it is read.
func (v Visit) Written() bool {
	return v.Role != Read
}

// Uses tells whether the visit is a use of the place's variable: what is assigned to behind a star is one, too.
func (v Visit) Uses() bool {
	return v.Operand() || v.Role == Given && v.Place.Behind()
}

// Place tells a place of a variable.
func (p *Program) Place(variable int, steps string) places.Place {
	if variable < 0 || variable >= len(p.Locals) {
		return places.Place{}
	}
	return places.Place{Var: variable, Steps: steps, Whole: p.Locals[variable].Type}
}

// Visits tells the places to which a point comes, in their order.
func (p *Program) Visits(point int) []Visit {
	if point < 0 || point >= len(p.Points) {
		return nil
	}
	at := p.Points[point]
	var list []Visit
	if at.A.Kind == api.Place {
		list = append(list, p.operand(at, at.A))
	}
	if at.B.Kind == api.Place {
		list = append(list, p.operand(at, at.B))
	}
	target := p.target(at)
	if target.Role != 0 {
		list = append(list, target)
	}
	return list
}

func (p *Program) operand(at api.Point, o api.Opnd) Visit {
	visit := Visit{Place: p.Place(o.N, o.Proj), Role: Read}
	switch at.Rv {
	case api.Ref:
		return visit
	case api.Mut:
		visit.Role = Lent
		return visit
	}
	if types.Moved(visit.Place.Type()) {
		visit.Role = Moved
	}
	return visit
}

// target tells what a point assigns to, drops or ends (its role is 0, if there is nothing).
func (p *Program) target(at api.Point) Visit {
	visit := Visit{Place: p.Place(at.DVar, at.DProj)}
	switch at.Kind {
	case api.Assign:
		visit.Role = Given
	case api.Drop:
		visit.Role = Dropped
	case api.Dead:
		visit.Role = Ended
	case api.End:
		visit = p.result(at.A)
	}
	return visit
}

// result tells how a function's End comes to its result a second time: no Dead ends it, so what refers to it would outlive it.
func (p *Program) result(o api.Opnd) Visit {
	if o.Kind != api.Place {
		return Visit{}
	}
	return Visit{Place: p.Place(o.N, o.Proj), Role: Ended}
}

// Renews tells whether a point gives a variable a wholly new value.
func (p *Program) Renews(point, variable int) bool {
	if point < 0 || point >= len(p.Points) || p.Points[point].DVar != variable {
		return false
	}
	switch p.Points[point].Kind {
	case api.Let, api.Dead:
		return true
	case api.Assign:
		return p.Points[point].DProj == ""
	}
	return false
}

// Ways tells the points behind a point (-1: there is none).
func (p *Program) Ways(point int) (int, int) {
	if point < 0 || point >= len(p.Points) {
		return -1, -1
	}
	return p.Points[point].Next, p.Points[point].Else
}
