package machine

import (
	"borrowing/api"
	"borrowing/memory"
	"borrowing/types"
)

// do does a point and tells what Step answers. If it fails, what it has done up to there stays done, and the point comes next.
func (m *Machine) do(p api.Point, in int) int {
	switch p.Kind {
	case api.Let:
		return m.let(p)
	case api.Assign:
		return m.assign(p, in)
	case api.Drop:
		return m.drop(p)
	case api.Out:
		return m.out(p, in)
	case api.Test:
		return m.test(p, in)
	case api.Dead:
		return m.dead(p)
	}
	if m.depth <= 1 {
		return api.Done
	}
	return m.leave(p)
}

func (m *Machine) goOn(next int) int {
	m.next = next
	return api.Ran
}

func (m *Machine) let(p api.Point) int {
	cells := make([]memory.Cell, types.Cells(m.typeOf(p.DVar)))
	if !m.settle(p.DVar, cells) {
		return api.Full
	}
	return m.goOn(p.Next)
}

// settle makes the object of a variable of the function that is at work; false: there are too many.
func (m *Machine) settle(variable int, cells []memory.Cell) bool {
	n, ok := m.store.Make(cells)
	if !ok || n < 0 || n >= len(m.homes) {
		return false
	}
	m.homes[n] = home{depth: m.depth, variable: variable}
	return true
}

func (m *Machine) assign(p api.Point, in int) int {
	if p.Rv == api.Call {
		return m.call(p, in)
	}
	value, end := m.value(p, in)
	if end != api.Ran {
		return end
	}
	return m.give(p, value)
}

// give lays a value into the place to which a point assigns.
func (m *Machine) give(p api.Point, value []memory.Cell) int {
	to, end := m.find(p.DVar, p.DProj, true)
	if end != api.Ran {
		return end
	}
	m.store.Touch(to.area, to.loan, true)
	m.store.Write(to.area, value)
	return m.goOn(p.Next)
}

func (m *Machine) drop(p api.Point) int {
	at, end := m.findFull(p.DVar, p.DProj, true)
	if end != api.Ran {
		return end
	}
	m.store.Touch(at.area, at.loan, true)
	m.store.Drop(at.area)
	return m.goOn(p.Next)
}

func (m *Machine) out(p api.Point, in int) int {
	value, end := m.operand(p.A, in)
	if end != api.Ran {
		return end
	}
	if m.put < 0 || m.put >= len(m.outs) {
		return api.Full
	}
	m.outs[m.put] = first(value).N
	m.put++
	return m.goOn(p.Next)
}

func (m *Machine) test(p api.Point, in int) int {
	value, end := m.operand(p.A, in)
	if end != api.Ran {
		return end
	}
	if first(value).N == 0 {
		return m.goOn(p.Else)
	}
	return m.goOn(p.Next)
}

func (m *Machine) dead(p api.Point) int {
	n := m.objectOf(m.depth, p.DVar)
	m.store.Free(n)
	return m.goOn(p.Next)
}

// call sets a function to work. It is at work ahead of its parameters, so that it stays so, if there is no room for one of them.
func (m *Machine) call(p api.Point, in int) int {
	one, two, end := m.operands(p, in)
	if end != api.Ran {
		return end
	}
	if m.depth < 0 || m.depth >= len(m.callers) || p.Fn < 0 || p.Fn >= len(m.funcs) {
		return api.Full
	}
	f := m.funcs[p.Fn]
	m.callers[m.depth] = m.next
	m.depth++
	if f.N > 0 && !m.settle(f.Param, one) {
		return api.Full
	}
	if f.N > 1 && !m.settle(f.Param+1, two) {
		return api.Full
	}
	return m.goOn(f.Entry)
}

// leave ends a function: the point that called it comes next, until it has its value.
func (m *Machine) leave(p api.Point) int {
	value, end := m.operand(p.A, 0)
	if end != api.Ran {
		return end
	}
	n := m.objectOf(m.depth, p.A.N)
	m.store.Free(n)
	m.depth--
	caller := m.callerOf(m.depth)
	if caller < 0 || caller >= len(m.points) {
		return api.Done
	}
	m.next = caller
	return m.give(m.points[caller], value)
}
