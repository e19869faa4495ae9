// Package borrowing: the checker: see DOC.md.
package borrowing

import (
	"borrowing/api"
	"borrowing/graph"
)

// Check tells the first rule that is broken (P21).
func Check(text string) api.Verdict { return api.Verdict{} }

// Graph tells the points, the variables, the functions (P9, P10).
func Graph(text string) ([]api.Point, []api.Local, []api.Func, api.Verdict) {
	return graph.Build(text)
}

// Why tells the reason of a move or a borrow that is refused (P22).
func Why(text string) ([]int, []int, api.Reason) { return nil, nil, api.Reason{} }
