package loans

import (
	"borrowing/paths"
	"borrowing/program"
	"borrowing/regions"
)

// Reason tells, of a point and a loan that First found, a path from the loan over the point on to where the loan is still wanted, the point's place in it, and the variable that is wanted there.
func Reason(p program.Program, m regions.Map, point, from int) ([]int, int, int) {
	if from < 0 || from >= len(p.Points) {
		return nil, 0, 0
	}
	alive := live(p)
	holders := m.Holders(from)
	variable := alive.carrier(holders, p.Points[from].DVar, point)
	l := lend(p, from, alive.anyOf(holders, len(p.Points)))
	ahead := l.reached.Path(point)
	behind := onward(p, point, variable)
	if len(ahead) == 0 || len(behind) == 0 {
		return nil, 0, 0
	}
	at := len(ahead) - 1
	path := make([]int, at+len(behind))
	copy(path, ahead)
	copy(path[at:], behind)
	return path, at, variable
}

// carrier tells a variable that carries a loan at a point (-1: none does): if it can be the one to which the loan was given, for then no chain of inclusions is to be followed.
func (l *liveness) carrier(holders []bool, given, point int) int {
	if given >= 0 && given < len(l.at) && paths.In(l.at[given], point) {
		return given
	}
	for v := 0; v < len(l.at); v++ {
		if paths.In(holders, v) && paths.In(l.at[v], point) {
			return v
		}
	}
	return -1
}

// onward tells a path from a point, which is its first, to where a variable that is live at the point is wanted.
func onward(p program.Program, point, variable int) []int {
	end := ownEnd(p, variable)
	if wanted(p, point, variable, end) {
		return []int{point}
	}
	starts := make([]bool, len(p.Points))
	over := make([]bool, len(p.Points))
	goals := make([]bool, len(p.Points))
	for i := 0; i < len(p.Points); i++ {
		starts[i] = i == point
		over[i] = stays(p, i, variable, end)
		goals[i] = wanted(p, i, variable, end)
	}
	found := paths.From(p, starts, over)
	return found.Path(found.Nearest(goals))
}
