// Package graph judges signatures, names and types (P6 to P8) and lays out the points, variables and functions of a program (P9, P10).
package graph

import (
	"borrowing/api"
	"borrowing/syntax"
	"borrowing/words"
)

// builder judges and lays out at once: both go through the text in the same order.
type builder struct {
	points  []api.Point
	locals  []api.Local
	funcs   []api.Func
	scope   []int       // the variables in scope, in the order in which they came
	lives   []string    // the lifetimes of the signature that is judged: a name for each number ("": it has none)
	verdict api.Verdict // the first rule that is broken
}

// Build tells the graph of a text and the verdict of Accept; else nil, nil, nil and the first rule that is broken.
func Build(text string) ([]api.Point, []api.Local, []api.Func, api.Verdict) {
	b := builder{verdict: api.Verdict{Rule: api.Accept, Point: -1, Loan: -1}}
	b.read(text)
	if b.broken() {
		return nil, nil, nil, b.verdict
	}
	points := freshPoints(b.points)
	locals := freshLocals(b.locals)
	funcs := freshFuncs(b.funcs)
	return points, locals, funcs, b.verdict
}

func (b *builder) read(text string) {
	if len(text) > api.MaxText {
		b.fail(api.RLong, words.Spot{})
		return
	}
	program, fault, ok := syntax.Parse(text)
	if !ok {
		b.fail(api.RParse, fault)
		return
	}
	b.signatures(program.Functions)
	for i := 0; i < len(program.Functions) && !b.broken(); i++ {
		b.function(i, program.Functions[i])
	}
	b.program(program)
}

// fail keeps the first rule that is broken: what is judged behind it may hang on what is not there.
func (b *builder) fail(rule int, at words.Spot) {
	if b.broken() {
		return
	}
	b.verdict.Rule = rule
	b.verdict.Line = at.Line
	b.verdict.Col = at.Col
}

func (b *builder) broken() bool {
	return b.verdict.Rule != api.Accept
}

// freshPoints copies a list, so that what comes out has no spare room; so do the two others.
func freshPoints(list []api.Point) []api.Point {
	if len(list) == 0 {
		return nil
	}
	fresh := make([]api.Point, len(list))
	copy(fresh, list)
	return fresh
}

func freshLocals(list []api.Local) []api.Local {
	if len(list) == 0 {
		return nil
	}
	fresh := make([]api.Local, len(list))
	copy(fresh, list)
	return fresh
}

func freshFuncs(list []api.Func) []api.Func {
	if len(list) == 0 {
		return nil
	}
	fresh := make([]api.Func, len(list))
	copy(fresh, list)
	return fresh
}
