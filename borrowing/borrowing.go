// Package borrowing: the checker: see DOC.md.
package borrowing

import (
	"borrowing/api"
	"borrowing/graph"
	"borrowing/loans"
	"borrowing/moves"
	"borrowing/program"
	"borrowing/regions"
)

// Check tells the first rule that is broken (P21).
func Check(text string) api.Verdict {
	verdict, _, _ := judge(text)
	return verdict
}

// judge tells Check's verdict, and what the reason for it is found from: the graph, and its regions, unless an earlier rule is broken.
func judge(text string) (api.Verdict, program.Program, regions.Map) {
	points, locals, funcs, verdict := graph.Build(text)
	p := program.Program{Points: points, Locals: locals, Funcs: funcs}
	if verdict.Rule != api.Accept {
		return verdict, p, regions.Map{}
	}
	at := moves.First(p)
	if at >= 0 {
		return broken(p, api.RUninit, at, -1), p, regions.Map{}
	}
	m := regions.Build(p)
	chain, _, _ := m.Outlives()
	if len(chain) > 0 {
		return broken(p, api.ROutlives, chain[0], -1), p, m
	}
	at, loan := loans.First(p, m)
	if at >= 0 {
		return broken(p, api.RBorrowed, at, loan), p, m
	}
	return verdict, p, m
}

// broken tells the verdict of a rule that is broken at a point.
func broken(p program.Program, rule, at, loan int) api.Verdict {
	v := api.Verdict{Rule: rule, Point: at, Loan: loan}
	if at >= 0 && at < len(p.Points) {
		v.Line = p.Points[at].Line
		v.Col = p.Points[at].Col
	}
	return v
}

// Graph tells the points, the variables, the functions (P9, P10).
func Graph(text string) ([]api.Point, []api.Local, []api.Func, api.Verdict) {
	return graph.Build(text)
}

// Why tells the reason of a move, a borrow or a lifetime that is refused (P22).
func Why(text string) ([]int, []int, api.Reason) {
	verdict, p, m := judge(text)
	switch verdict.Rule {
	case api.RUninit:
		path, variable := moves.Reason(p, verdict.Point)
		return path, nil, api.Reason{At: len(path) - 1, Var: variable}
	case api.ROutlives:
		chain, one, other := m.Outlives()
		return nil, chain, api.Reason{At: one, Var: other}
	case api.RBorrowed:
		path, at, variable := loans.Reason(p, m, verdict.Point, verdict.Loan)
		return path, m.Chain(verdict.Loan, variable), api.Reason{At: at, Var: variable}
	}
	return nil, nil, api.Reason{}
}
