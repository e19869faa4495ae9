package loans

import "borrowing/program"

// walk is a search for points along paths.
type walk struct {
	in   []bool // the points that were come to
	todo []int
}

// scope tells at which points a loan is in scope: what its paths come to, as long as it is carried and what is borrowed is still the same.
func scope(p program.Program, l loan, carried []bool) []bool {
	w := walk{in: make([]bool, len(p.Points))}
	w.goOn(p, l, l.point, carried)
	for len(w.todo) > 0 {
		last := len(w.todo) - 1
		point := w.todo[last]
		w.todo = w.todo[:last]
		w.goOn(p, l, point, carried)
	}
	return w.in
}

func (w *walk) goOn(p program.Program, l loan, point int, carried []bool) {
	if p.Renews(point, l.place.Var) {
		return
	}
	next, other := p.Ways(point)
	w.enter(next, carried)
	w.enter(other, carried)
}

func (w *walk) enter(point int, carried []bool) {
	if point < 0 || point >= len(w.in) || point >= len(carried) || w.in[point] || !carried[point] {
		return
	}
	w.in[point] = true
	w.todo = append(w.todo, point)
}
