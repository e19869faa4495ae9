package syntax

import (
	"borrowing/api"
	"borrowing/words"
)

func (p *parser) value() Value {
	v := Value{At: p.word().At}
	switch p.fixed() {
	case "&":
		p.pass()
		v.Kind = api.Ref
		mut := p.skip("mut")
		if mut {
			v.Kind = api.Mut
		}
		v.A = p.placeOperand()
	case "box":
		p.pass()
		v.Kind = api.Box
		v.A = p.operand()
	case "[":
		p.pass()
		v.Kind = api.Pair
		v.A = p.operand()
		p.want(",")
		v.B = p.operand()
		p.want("]")
	default:
		p.plainValue(&v)
	}
	return v
}

// plainValue reads a value that begins with an operand: what follows tells its kind.
func (p *parser) plainValue(v *Value) {
	head := p.operand()
	switch p.fixed() {
	case "+":
		p.pass()
		v.Kind = api.Sum
		v.A = head
		v.B = p.operand()
	case "(":
		p.pass()
		v.Kind = api.Call
		v.Callee = plainName(head)
		p.arguments(v)
		p.want(")")
	default:
		v.Kind = api.Use
		v.A = head
	}
}

// plainName tells "" of a name in brackets, too: its place does not begin with the name.
func plainName(o Operand) string {
	if len(o.Place.Steps) > 0 || o.At != o.Place.Name.At {
		return ""
	}
	return o.Place.Name.Text
}

func (p *parser) arguments(v *Value) {
	if p.sees(")") {
		return
	}
	v.A = p.operand()
	more := p.skip(",")
	if more {
		v.B = p.operand()
	}
}

func (p *parser) operand() Operand {
	w := p.word()
	if w.Kind == words.Number {
		p.pass()
		return Operand{Kind: api.Number, At: w.At, N: number(w.Text)}
	}
	if p.sees("?") {
		p.pass()
		return Operand{Kind: api.Input, At: w.At}
	}
	return p.placeOperand()
}

// number reads digits: there are so few in a word that every number fits.
func number(digits string) int {
	n := 0
	for i := 0; i < len(digits); i++ {
		n = 10*n + int(digits[i]-'0')
	}
	return n
}

func (p *parser) placeOperand() Operand {
	place := p.place()
	return Operand{Kind: api.Place, At: place.At, Place: place}
}

func (p *parser) place() Place {
	at := p.word().At
	var place Place
	switch p.fixed() {
	case "*":
		p.pass()
		place = p.place()
		place.Steps = append(place.Steps, Step{"*", at})
	case "(":
		p.pass()
		place = p.place()
		p.want(")")
		p.fields(&place)
	default:
		place.Name = p.wantKind(words.Name)
		p.fields(&place)
	}
	place.At = at
	return place
}

func (p *parser) fields(place *Place) {
	for p.sees(".") {
		at := p.want(".")
		w := p.wantKind(words.Number)
		place.Steps = append(place.Steps, Step{w.Text, at})
	}
}
