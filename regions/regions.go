// Package regions tells in which regions a program's loans are (P17), which lifetimes come to others (P18), and over which points (P22).
package regions

import (
	"borrowing/api"
	"borrowing/program"
	"borrowing/types"
)

// inclusion says that a point asks for one region to be included in another.
type inclusion struct {
	from, to, point int
}

// Map has the regions of a program, which are numbered, and their inclusions.
type Map struct {
	program    program.Program
	variables  [][]int // of each variable: the regions of the references in its type, in their order
	lives      []int   // of each function: the region of its first lifetime
	calls      []int   // of each point: the region of the first lifetime of the function that it calls
	count      int
	inclusions []inclusion // in the order of their points
	outgoing   [][]int     // of each region: the regions in which inclusions lay it
}

// Build finds the regions and inclusions of a program.
func Build(p program.Program) Map {
	m := Map{program: p}
	m.numberLives()
	m.numberVariables()
	m.numberCalls()
	for i := 0; i < len(p.Points); i++ {
		if p.Points[i].Kind == api.Assign {
			m.ask(i, p.Points[i])
		}
	}
	m.outgoing = make([][]int, m.count)
	for i := 0; i < len(m.inclusions); i++ {
		from := m.inclusions[i].from
		m.outgoing[from] = append(m.outgoing[from], m.inclusions[i].to)
	}
	return m
}

// take makes some regions and tells the first.
func (m *Map) take(many int) int {
	first := m.count
	m.count += many
	return first
}

func (m *Map) numberLives() {
	for f := 0; f < len(m.program.Funcs); f++ {
		first := m.take(m.program.Funcs[f].Lives)
		m.lives = append(m.lives, first)
	}
}

func (m *Map) numberVariables() {
	locals := m.program.Locals
	m.variables = make([][]int, len(locals))
	for v := 0; v < len(locals); v++ {
		if locals[v].Life == "" {
			many := types.References(locals[v].Type)
			first := m.take(many)
			m.variables[v] = inOrder(first, many)
		}
	}
	for f := 0; f < len(m.lives); f++ {
		known := m.program.Funcs[f]
		for v := known.Param; v <= known.Ret && v < len(locals); v++ {
			if locals[v].Life != "" {
				m.variables[v] = byLife(m.lives[f], locals[v].Life)
			}
		}
	}
}

// numberCalls makes regions of its own for each call: what one call joins, another need not.
func (m *Map) numberCalls() {
	m.calls = make([]int, len(m.program.Points))
	for i := 0; i < len(m.calls); i++ {
		p := m.program.Points[i]
		if p.Rv == api.Call && p.Fn >= 0 && p.Fn < len(m.program.Funcs) {
			first := m.take(m.program.Funcs[p.Fn].Lives)
			m.calls[i] = first
		}
	}
}

func inOrder(first, many int) []int {
	list := make([]int, many)
	for k := 0; k < many; k++ {
		list[k] = first + k
	}
	return list
}

// byLife tells the regions of a signature's references: Life has a letter for each one's lifetime.
func byLife(first int, life string) []int {
	list := make([]int, len(life))
	for k := 0; k < len(life); k++ {
		list[k] = first + int(life[k]) - 'a'
	}
	return list
}
