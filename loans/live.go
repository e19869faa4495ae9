package loans

import (
	"borrowing/paths"
	"borrowing/program"
)

// liveness tells of each variable and point whether the variable is live there.
type liveness struct {
	at [][]bool
}

func live(p program.Program) liveness {
	var l liveness
	for v := 0; v < len(p.Locals); v++ {
		l.at = append(l.at, liveAt(p, v))
	}
	return l
}

// anyOf tells of each point whether one of some variables is live there.
func (l *liveness) anyOf(chosen []bool, points int) []bool {
	some := make([]bool, points)
	for v := 0; v < len(l.at) && v < len(chosen); v++ {
		for i := 0; i < points && chosen[v]; i++ {
			some[i] = some[i] || paths.In(l.at[v], i)
		}
	}
	return some
}

// liveAt goes from the points that need a variable back along the paths: each round but the last finds a point.
func liveAt(p program.Program, variable int) []bool {
	in := make([]bool, len(p.Points))
	end := ownEnd(p, variable)
	more := true
	for more {
		more = false
		for i := len(in) - 1; i >= 0; i-- {
			if in[i] {
				continue
			}
			in[i] = wanted(p, i, variable, end) || stays(p, i, variable, end) && leads(p, i, in)
			more = more || in[i]
		}
	}
	return in
}

// ownEnd tells the End up to which a parameter or result with lifetimes lives (-1: the variable is none).
func ownEnd(p program.Program, variable int) int {
	if variable < 0 || variable >= len(p.Locals) || p.Locals[variable].Life == "" {
		return -1
	}
	for f := 0; f < len(p.Funcs); f++ {
		if p.Funcs[f].Param <= variable && variable <= p.Funcs[f].Ret {
			return p.Funcs[f].End
		}
	}
	return -1
}

// wanted tells whether a variable is wanted at a point: used there. What lives up to an End is wanted there, by the caller: all other uses lie ahead of it.
func wanted(p program.Program, point, variable, end int) bool {
	if end >= 0 {
		return point == end
	}
	visits := p.Visits(point)
	for k := 0; k < len(visits); k++ {
		if visits[k].Place.Var == variable && visits[k].Uses() {
			return true
		}
	}
	return false
}

// stays tells whether what is live behind a point is live ahead of it. What lives up to the End does so whatever it is given: its lifetimes are the caller's.
func stays(p program.Program, point, variable, end int) bool {
	return end >= 0 || !p.Renews(point, variable)
}

// leads tells whether a way out of a point leads to one of some points.
func leads(p program.Program, point int, to []bool) bool {
	next, other := p.Ways(point)
	return paths.In(to, next) || paths.In(to, other)
}
