package graph

import (
	"borrowing/api"
	"borrowing/syntax"
	"borrowing/words"
)

func (b *builder) function(n int, f syntax.Function) {
	if n < 0 || n >= len(b.funcs) {
		return
	}
	known := b.funcs[n]
	entry := len(b.points)
	b.scope = nil
	for v := known.Param; v <= known.Ret; v++ {
		b.scope = append(b.scope, v)
	}
	b.add(api.Point{Kind: api.Let, DVar: known.Ret}, f.At)
	b.block(f.Body)
	for v := known.Ret - 1; v >= known.Param; v-- {
		b.add(api.Point{Kind: api.Dead, DVar: v}, f.Body.End)
	}
	b.end(api.Opnd{Kind: api.Place, N: known.Ret}, f.Body.End)
	b.funcs[n].Entry = entry
	b.funcs[n].End = len(b.points) - 1
}

func (b *builder) program(p syntax.Program) {
	entry := len(b.points)
	b.scope = nil
	b.block(p.Body)
	b.end(api.Opnd{}, p.End)
	b.funcs = append(b.funcs, api.Func{Entry: entry, End: len(b.points) - 1, Ret: -1})
}

// add lays a point behind the others. It goes on with the point that will stand behind it: if that is not what comes next, turn mends it once the block is whole.
func (b *builder) add(p api.Point, at words.Spot) {
	p.Line = at.Line
	p.Col = at.Col
	p.Next = len(b.points) + 1
	p.Else = -1
	b.points = append(b.points, p)
}

func (b *builder) end(a api.Opnd, at words.Spot) {
	b.points = append(b.points, api.Point{
		Kind: api.End,
		Next: -1,
		Else: -1,
		Line: at.Line,
		Col:  at.Col,
		A:    a,
	})
}

// turn leads the ways out of the points from first on that go to the point behind them all, last, elsewhere.
func (b *builder) turn(first, last, to int) {
	for i := first; i < last && i < len(b.points); i++ {
		if b.points[i].Next == last {
			b.points[i].Next = to
		}
		if b.points[i].Else == last {
			b.points[i].Else = to
		}
	}
}

func (b *builder) setElse(test, to int) {
	if test < len(b.points) {
		b.points[test].Else = to
	}
}

func (b *builder) block(k syntax.Block) {
	outer := len(b.scope)
	for i := 0; i < len(k.List) && !b.broken(); i++ {
		b.statement(k.List[i])
	}
	for i := len(b.scope) - 1; i >= outer; i-- {
		b.add(api.Point{Kind: api.Dead, DVar: b.scope[i]}, k.End)
		b.scope = b.scope[:i]
	}
}

func (b *builder) statement(s syntax.Statement) {
	switch s.Kind {
	case syntax.Let:
		b.let(s)
	case syntax.Assign:
		b.assign(s)
	case syntax.Drop:
		b.drop(s)
	case syntax.Out:
		b.out(s)
	case syntax.If:
		b.branch(s)
	case syntax.While:
		b.loop(s)
	case syntax.Inner:
		b.block(s.Body)
	}
}

func (b *builder) let(s syntax.Statement) {
	if b.findVar(s.Name.Text) >= 0 {
		b.fail(api.RTwice, s.Name.At)
	}
	b.fits(s.Type.Signs, s.Type.At)
	v := len(b.locals)
	b.locals = append(b.locals, api.Local{Name: s.Name.Text, Type: s.Type.Signs})
	b.scope = append(b.scope, v)
	b.add(api.Point{Kind: api.Let, DVar: v}, s.At)
}

func (b *builder) drop(s syntax.Statement) {
	p := b.place(s.Place)
	b.leaves(p, s.Place.At)
	b.add(api.Point{Kind: api.Drop, DVar: p.variable, DProj: p.steps}, s.At)
}

func (b *builder) out(s syntax.Statement) {
	p := b.place(s.Place)
	b.isNumber(p.signs, s.Place.At)
	a := p.operand()
	b.add(api.Point{Kind: api.Out, A: a}, s.At)
}

func (b *builder) test(s syntax.Statement) {
	a, signs := b.operand(s.Test)
	b.isNumber(signs, s.Test.At)
	b.add(api.Point{Kind: api.Test, A: a}, s.At)
}

func (b *builder) branch(s syntax.Statement) {
	test := len(b.points)
	b.test(s)
	b.block(s.Body)
	other := len(b.points)
	b.block(s.Other)
	b.turn(test, other, len(b.points))
	b.setElse(test, other)
}

func (b *builder) loop(s syntax.Statement) {
	test := len(b.points)
	b.test(s)
	b.block(s.Body)
	behind := len(b.points)
	b.turn(test, behind, test)
	b.setElse(test, behind)
}
