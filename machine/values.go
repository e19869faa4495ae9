package machine

import (
	"borrowing/api"
	"borrowing/memory"
	"borrowing/types"
)

// road is a place that was found: its cells, the loan by which one came, its type.
type road struct {
	area  memory.Area
	loan  int
	signs string
}

// find goes from a variable to a place that is to be written, or read; or tells why it cannot.
func (m *Machine) find(variable int, steps string, written bool) (road, int) {
	n := m.objectOf(m.depth, variable)
	at := road{area: m.store.Whole(n), loan: memory.None, signs: m.typeOf(variable)}
	for i := 0; i < len(steps); i++ {
		if steps[i] != '*' {
			at = part(at, steps[i])
			continue
		}
		to, end := m.follow(at, written)
		if end != api.Ran {
			return road{}, end
		}
		at = to
	}
	return at, api.Ran
}

// findFull finds a place whose cells must all have values.
func (m *Machine) findFull(variable int, steps string, written bool) (road, int) {
	at, end := m.find(variable, steps, written)
	if end != api.Ran {
		return road{}, end
	}
	end = m.store.Missing(at.area)
	if end != api.Ran {
		return road{}, end
	}
	return at, api.Ran
}

// part goes on to a part of a pair.
func part(at road, step byte) road {
	head := types.First(at.signs)
	ahead := types.Cells(head)
	if step == '0' {
		at.signs = head
		at.area.Count = ahead
		return at
	}
	at.signs = types.Second(at.signs)
	at.area.First += ahead
	at.area.Count -= ahead
	return at
}

// follow goes on to what a pointer points to.
func (m *Machine) follow(at road, written bool) (road, int) {
	end := m.store.Missing(at.area)
	if end != api.Ran {
		return road{}, end
	}
	m.store.Touch(at.area, at.loan, written)
	cells := m.store.Read(at.area)
	pointer := first(cells)
	to := road{area: pointer.At, loan: pointer.N, signs: types.Pointed(at.signs)}
	if pointer.Kind == memory.Box {
		to.area = m.store.Whole(pointer.N)
		to.loan = at.loan
		return to, api.Ran
	}
	if m.store.Cut(to.loan) {
		return road{}, api.FConflict
	}
	if m.store.Gone(to.area.Object) {
		return road{}, api.FDangling
	}
	return to, api.Ran
}

// value tells what a point assigns, but for a call's result.
func (m *Machine) value(p api.Point, in int) ([]memory.Cell, int) {
	if p.Rv == api.Ref || p.Rv == api.Mut {
		return m.borrow(p.A, p.Rv == api.Mut)
	}
	one, two, end := m.operands(p, in)
	if end != api.Ran {
		return nil, end
	}
	switch p.Rv {
	case api.Box:
		return m.box(one)
	case api.Pair:
		return append(one, two...), api.Ran
	case api.Sum:
		return number((first(one).N + first(two).N) % api.Modulus), api.Ran
	}
	return one, api.Ran
}

// operands tells the values of a point's operands: the second one finds what the first one has left.
func (m *Machine) operands(p api.Point, in int) ([]memory.Cell, []memory.Cell, int) {
	one, end := m.operand(p.A, in)
	if end != api.Ran {
		return nil, nil, end
	}
	two, end := m.operand(p.B, in>>1)
	if end != api.Ran {
		return nil, nil, end
	}
	return one, two, api.Ran
}

// operand tells an operand's value; the lowest bit of in is its input.
func (m *Machine) operand(o api.Opnd, in int) ([]memory.Cell, int) {
	switch o.Kind {
	case api.Number:
		return number(o.N), api.Ran
	case api.Input:
		return number(in & 1), api.Ran
	case api.Place:
		return m.use(o)
	}
	return nil, api.Ran
}

// use copies or moves the value of a place.
func (m *Machine) use(o api.Opnd) ([]memory.Cell, int) {
	at, end := m.findFull(o.N, o.Proj, false)
	if end != api.Ran {
		return nil, end
	}
	moved := types.Moved(at.signs)
	m.store.Touch(at.area, at.loan, moved)
	value := m.store.Read(at.area)
	if moved {
		m.store.Take(at.area)
	}
	return value, api.Ran
}

func (m *Machine) borrow(o api.Opnd, written bool) ([]memory.Cell, int) {
	at, end := m.findFull(o.N, o.Proj, written)
	if end != api.Ran {
		return nil, end
	}
	n, ok := m.store.Lend(at.area, at.loan, written)
	if !ok {
		return nil, api.Full
	}
	return single(memory.Cell{Kind: memory.Ref, N: n, At: at.area}), api.Ran
}

func (m *Machine) box(value []memory.Cell) ([]memory.Cell, int) {
	n, ok := m.store.Make(value)
	if !ok {
		return nil, api.Full
	}
	return single(memory.Cell{Kind: memory.Box, N: n}), api.Ran
}

func single(c memory.Cell) []memory.Cell {
	cells := make([]memory.Cell, 1)
	cells[0] = c
	return cells
}

func number(n int) []memory.Cell {
	return single(memory.Cell{Kind: memory.Number, N: n})
}

// first tells the cell of a value that has one alone.
func first(value []memory.Cell) memory.Cell {
	if len(value) == 0 {
		return memory.Cell{}
	}
	return value[0]
}
