package regions

import (
	"borrowing/api"
	"borrowing/places"
	"borrowing/types"
)

// side is a type, and the regions of the references in it.
type side struct {
	signs   string
	regions []int
}

// ask takes in the inclusions for which a point asks that assigns.
func (m *Map) ask(point int, p api.Point) {
	to := m.at(m.program.Place(p.DVar, p.DProj))
	one := m.operand(p.A)
	two := m.operand(p.B)
	switch p.Rv {
	case api.Use:
		m.give(point, one, to, false)
	case api.Box:
		m.give(point, one, inside(to), false)
	case api.Pair:
		left, right := parts(to)
		m.give(point, one, left, false)
		m.give(point, two, right, false)
	case api.Ref, api.Mut:
		m.give(point, one, inside(to), p.Rv == api.Mut)
		m.reborrow(point, m.program.Place(p.A.N, p.A.Proj), to)
	case api.Call:
		m.call(point, p.Fn, one, two, to)
	}
}

func (m *Map) operand(o api.Opnd) side {
	if o.Kind != api.Place {
		return side{signs: types.Number}
	}
	return m.at(m.program.Place(o.N, o.Proj))
}

// at tells the regions of what a place holds.
func (m *Map) at(p places.Place) side {
	if p.Var < 0 || p.Var >= len(m.variables) {
		return side{}
	}
	signs := p.Type()
	all := m.variables[p.Var]
	first := p.Ahead()
	last := first + types.References(signs)
	if last > len(all) {
		return side{}
	}
	return side{signs: signs, regions: all[first:last]}
}

// inside tells of a box or a reference what it points to.
func inside(s side) side {
	pointed := types.Pointed(s.signs)
	own := len(s.regions) - types.References(pointed)
	if own < 0 {
		return side{}
	}
	return side{signs: pointed, regions: s.regions[own:]}
}

func parts(s side) (side, side) {
	one := types.First(s.signs)
	count := types.References(one)
	if count > len(s.regions) {
		return side{}, side{}
	}
	return side{signs: one, regions: s.regions[:count]}, side{signs: types.Second(s.signs), regions: s.regions[count:]}
}

// give lays a value beside a place of its type. What can be written through the new road is read on the old one: below an m, and below a new &mut, the inclusions go both ways.
func (m *Map) give(point int, from, to side, both bool) {
	below := types.BelowMut(from.signs)
	for k := 0; k < len(below) && k < len(from.regions) && k < len(to.regions); k++ {
		m.include(point, from.regions[k], to.regions[k])
		if both || below[k] {
			m.include(point, to.regions[k], from.regions[k])
		}
	}
}

func (m *Map) include(point, from, to int) {
	if from < 0 || from >= m.count || to < 0 || to >= m.count {
		return
	}
	m.inclusions = append(m.inclusions, inclusion{from: from, to: to, point: point})
}

// reborrow lays the references that a borrowed place lies behind into the new one: back to a shared one, for that can be copied and so does not hang on those ahead of it.
func (m *Map) reborrow(point int, p places.Place, to side) {
	for i := len(p.Steps) - 1; i >= 0; i-- {
		over := m.at(p.Up(i))
		if !types.IsReference(over.signs) {
			continue
		}
		m.include(point, head(over), head(to))
		if types.IsShared(over.signs) {
			return
		}
	}
}

// head tells the region of a reference itself (-1: it is none).
func head(s side) int {
	if !types.IsReference(s.signs) || len(s.regions) == 0 {
		return -1
	}
	return s.regions[0]
}

// call lays the operands beside the parameters as they are at this call, and the result as it is at this call beside the place.
func (m *Map) call(point, function int, one, two, to side) {
	if function < 0 || function >= len(m.program.Funcs) {
		return
	}
	f := m.program.Funcs[function]
	if f.N > 0 {
		m.give(point, one, m.atCall(point, f.Param), false)
	}
	if f.N > 1 {
		m.give(point, two, m.atCall(point, f.Param+1), false)
	}
	m.give(point, m.atCall(point, f.Ret), to, false)
}

// atCall tells the regions of a parameter or result as they are at a call.
func (m *Map) atCall(point, variable int) side {
	if point < 0 || point >= len(m.calls) || variable < 0 || variable >= len(m.program.Locals) {
		return side{}
	}
	local := m.program.Locals[variable]
	return side{signs: local.Type, regions: byLife(m.calls[point], local.Life)}
}
