package paths

import (
	"fmt"
	"testing"

	"borrowing/api"
	"borrowing/program"
)

// graph: a graph of which each point has these ways out.
func graph(ways ...[2]int) program.Program {
	var p program.Program
	for _, w := range ways {
		p.Points = append(p.Points, api.Point{Next: w[0], Else: w[1]})
	}
	return p
}

func only(many int, points ...int) []bool {
	list := make([]bool, many)
	for _, i := range points {
		list[i] = true
	}
	return list
}

// TestPaths: 0 is the head of a loop of 1 and 2, behind which 3 parts into 4 and 5, which meet in 6; 7 leads to itself, 8 is on its own.
func TestPaths(t *testing.T) {
	p := graph([2]int{1, 3}, [2]int{2, -1}, [2]int{0, -1}, [2]int{4, 5}, [2]int{6, -1}, [2]int{6, -1}, [2]int{-1, -1}, [2]int{7, -1}, [2]int{-1, -1})
	all := only(9, 0, 1, 2, 3, 4, 5, 6, 7, 8)
	for _, c := range []struct {
		starts, over []bool
		to           int
		want         string
	}{
		{only(9, 1), all, 2, "[1 2]"},
		{only(9, 1), all, 0, "[1 2 0]"},
		{only(9, 1), all, 1, "[1 2 0 1]"},
		{only(9, 0), all, 0, "[0 1 2 0]"},
		{only(9, 1), all, 6, "[1 2 0 3 4 6]"},
		{only(9, 1), only(9, 0, 2, 3, 5), 6, "[1 2 0 3 5 6]"},
		{only(9, 1), only(9, 2, 3, 5), 0, "[1 2 0]"}, // the last point need not be gone over
		{only(9, 1), only(9, 2, 3, 5), 3, "[]"},
		{only(9, 1, 3), all, 6, "[3 4 6]"}, // the nearer start
		{only(9, 1, 2), all, 1, "[2 0 1]"},
		{only(9, 0, 1, 2), all, 1, "[0 1]"},
		{only(9, 3), all, 3, "[]"},
		{only(9, 7), all, 7, "[7 7]"},
		{only(9, 8), all, 8, "[]"},
		{only(9), all, 1, "[]"},
		{nil, nil, 1, "[]"},
		{only(9, 1), all, -1, "[]"},
		{only(9, 1), all, 9, "[]"},
	} {
		s := From(p, c.starts, c.over)
		path := s.Path(c.to)
		if fmt.Sprint(path) != c.want || s.Reached(c.to) != (path != nil) || cap(path) != len(path) {
			t.Errorf("from %v over %v to %d: %v, reached: %t, want %s", c.starts, c.over, c.to, path, s.Reached(c.to), c.want)
		}
	}
}

func TestNearest(t *testing.T) {
	p := graph([2]int{1, 3}, [2]int{2, -1}, [2]int{-1, -1}, [2]int{0, -1}, [2]int{-1, -1})
	s := From(p, only(5, 0), only(5, 1, 2, 3, 4))
	for _, c := range []struct {
		goals []bool
		want  int
	}{
		{only(5, 2, 3), 3}, {only(5, 2, 1), 1}, {only(5, 2), 2}, {only(5, 0, 4), 0}, {only(5, 4), -1}, {nil, -1},
	} {
		if got := s.Nearest(c.goals); got != c.want {
			t.Errorf("the nearest of %v: %d, want %d", c.goals, got, c.want)
		}
	}
}

func TestIn(t *testing.T) {
	list := []bool{true, false, true}
	for i, want := range map[int]bool{-1: false, 0: true, 1: false, 2: true, 3: false} {
		if In(list, i) != want {
			t.Errorf("In(%v, %d): %t", list, i, !want)
		}
	}
}
