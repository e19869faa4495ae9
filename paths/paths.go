// Package paths finds paths through a graph.
package paths

import "borrowing/program"

// Search is what was found along the ways of a graph, the nearest first.
type Search struct {
	starts []bool
	ahead  []int // of each point: the one from which it was come to first (-1: it was not)
	found  []int
}

// From goes from some points on by all paths, as far as the points that they lead to are such as may be gone over.
func From(p program.Program, starts, over []bool) Search {
	s := begin(starts, len(p.Points))
	for i := 0; i < len(s.starts); i++ {
		if s.starts[i] {
			s.goOn(p, i)
		}
	}
	for k := 0; k < len(s.found); k++ {
		point := s.found[k]
		if In(over, point) {
			s.goOn(p, point)
		}
	}
	return s
}

func begin(starts []bool, points int) Search {
	s := Search{starts: make([]bool, points), ahead: make([]int, points)}
	copy(s.starts, starts)
	for i := 0; i < points; i++ {
		s.ahead[i] = -1
	}
	return s
}

func (s *Search) goOn(p program.Program, point int) {
	next, other := p.Ways(point)
	s.come(point, next)
	s.come(point, other)
}

func (s *Search) come(from, to int) {
	if to < 0 || to >= len(s.ahead) || s.ahead[to] >= 0 {
		return
	}
	s.ahead[to] = from
	s.found = append(s.found, to)
}

// Reached tells whether a path of one way or more leads to a point.
func (s *Search) Reached(point int) bool {
	return point >= 0 && point < len(s.ahead) && s.ahead[point] >= 0
}

// Nearest tells the nearest of some points that were reached (-1: none was).
func (s *Search) Nearest(goals []bool) int {
	for k := 0; k < len(s.found); k++ {
		if In(goals, s.found[k]) {
			return s.found[k]
		}
	}
	return -1
}

// Path tells a path of one way or more, as short as can be, from a start to a point, both among it (nil: there is none).
func (s *Search) Path(to int) []int {
	if !s.Reached(to) {
		return nil
	}
	from := s.ahead[to]
	many := 2
	for !s.starts[from] {
		from = s.ahead[from]
		many++
	}
	path := make([]int, many)
	for k := many - 1; k >= 0; k-- {
		path[k] = to
		to = s.ahead[to]
	}
	return path
}

// In tells whether a point is among some points.
func In(list []bool, point int) bool {
	return point >= 0 && point < len(list) && list[point]
}
