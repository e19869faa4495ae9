package graph

import (
	"borrowing/api"
	"borrowing/syntax"
	"borrowing/types"
	"borrowing/words"
)

// place is a place whose names and steps were judged.
type place struct {
	variable int
	steps    string
	signs    string // its type; "" behind a fault
	behind   bool   // behind a star
	shared   bool   // behind a shared reference
}

func (p place) operand() api.Opnd {
	return api.Opnd{Kind: api.Place, N: p.variable, Proj: p.steps}
}

// findVar tells the variable in scope that has this name (-1: none).
func (b *builder) findVar(name string) int {
	for i := 0; i < len(b.scope); i++ {
		v := b.scope[i]
		if v < len(b.locals) && b.locals[v].Name == name {
			return v
		}
	}
	return -1
}

func (b *builder) place(p syntax.Place) place {
	v := b.findVar(p.Name.Text)
	if v < 0 || v >= len(b.locals) {
		b.fail(api.RName, p.Name.At)
		return place{}
	}
	at := place{variable: v, signs: b.locals[v].Type}
	for i := 0; i < len(p.Steps) && !b.broken(); i++ {
		if p.Steps[i].Text == "*" {
			at = b.follow(at, p.Steps[i].At)
		} else {
			at = b.field(at, p.Steps[i])
		}
	}
	return at
}

// follow goes on to what a place points to.
func (b *builder) follow(p place, at words.Spot) place {
	pointed := types.Pointed(p.signs)
	if pointed == "" {
		b.fail(api.RDeref, at)
	}
	return place{
		variable: p.variable,
		steps:    p.steps + "*",
		signs:    pointed,
		behind:   true,
		shared:   p.shared || types.IsShared(p.signs),
	}
}

// field goes on to a part of a place.
func (b *builder) field(p place, s syntax.Step) place {
	part := ""
	switch s.Text {
	case "0":
		part = types.First(p.signs)
	case "1":
		part = types.Second(p.signs)
	}
	if part == "" {
		b.fail(api.RField, s.At)
	}
	p.steps += s.Text
	p.signs = part
	return p
}

// leaves judges a place whose value is moved or dropped.
func (b *builder) leaves(p place, at words.Spot) {
	if p.shared {
		b.fail(api.RShared, at)
	} else if p.behind {
		b.fail(api.RMoveOut, at)
	}
}

// written judges a place that is written, or borrowed to be written.
func (b *builder) written(p place, at words.Spot) {
	if p.shared {
		b.fail(api.RShared, at)
	}
}

func (b *builder) isNumber(signs string, at words.Spot) {
	if signs != types.Number {
		b.fail(api.RType, at)
	}
}

// operand tells an operand and its type.
func (b *builder) operand(o syntax.Operand) (api.Opnd, string) {
	switch o.Kind {
	case api.Number:
		return api.Opnd{Kind: api.Number, N: o.N}, types.Number
	case api.Input:
		return api.Opnd{Kind: api.Input}, types.Number
	case api.Place:
		p := b.place(o.Place)
		if types.Moved(p.signs) {
			b.leaves(p, o.At)
		}
		return p.operand(), p.signs
	}
	return api.Opnd{}, ""
}

func (b *builder) assign(s syntax.Statement) {
	to := b.place(s.Place)
	b.written(to, s.Place.At)
	p := api.Point{Kind: api.Assign, Rv: s.Value.Kind, DVar: to.variable, DProj: to.steps}
	signs := ""
	switch s.Value.Kind {
	case api.Ref, api.Mut:
		signs = b.borrow(s.Value, &p)
	case api.Call:
		signs = b.call(s.Value, &p)
	default:
		signs = b.compute(s.Value, &p)
	}
	if signs != to.signs {
		b.fail(api.RType, s.Value.At)
	}
	b.add(p, s.At)
}

// borrow lays a borrowed place into a point and tells the reference's type; so do compute and call with their operands.
func (b *builder) borrow(v syntax.Value, p *api.Point) string {
	from := b.place(v.A.Place)
	p.A = from.operand()
	if v.Kind == api.Ref {
		return "r" + from.signs
	}
	b.written(from, v.A.At)
	return "m" + from.signs
}

func (b *builder) compute(v syntax.Value, p *api.Point) string {
	a, one := b.operand(v.A)
	c, two := b.operand(v.B)
	p.A = a
	p.B = c
	switch v.Kind {
	case api.Use:
		return one
	case api.Box:
		return "b" + one
	case api.Pair:
		return "p" + one + two
	case api.Sum:
		if one == types.Number && two == types.Number {
			return types.Number
		}
	}
	return ""
}

func (b *builder) call(v syntax.Value, p *api.Point) string {
	n := b.findFunc(v.Callee)
	if n < 0 || n >= len(b.funcs) || b.funcs[n].N != arguments(v) {
		b.fail(api.RCall, v.At)
		return ""
	}
	p.Fn = n
	f := b.funcs[n]
	if f.N > 0 {
		p.A = b.argument(v.A, f.Param)
	}
	if f.N > 1 {
		p.B = b.argument(v.B, f.Param+1)
	}
	return b.typeOf(f.Ret)
}

func arguments(v syntax.Value) int {
	n := 0
	if v.A.Kind != api.None {
		n++
	}
	if v.B.Kind != api.None {
		n++
	}
	return n
}

func (b *builder) argument(o syntax.Operand, param int) api.Opnd {
	a, signs := b.operand(o)
	if signs != b.typeOf(param) {
		b.fail(api.RType, o.At)
	}
	return a
}

// typeOf tells a variable's type.
func (b *builder) typeOf(v int) string {
	if v < 0 || v >= len(b.locals) {
		return ""
	}
	return b.locals[v].Type
}
