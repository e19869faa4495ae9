package syntax

import "borrowing/words"

func (p *parser) program() Program {
	var list []Function
	for p.sees("fn") {
		f := p.function()
		list = append(list, f)
	}
	body := p.block()
	end := p.wantKind(words.End)
	return Program{list, body, end.At}
}

func (p *parser) function() Function {
	at := p.want("fn")
	name := p.wantKind(words.Name)
	p.want("(")
	params := p.params()
	p.want(")")
	p.want(":")
	result := p.typeOf(true)
	body := p.block()
	return Function{at, name, params, result, body}
}

func (p *parser) params() []Param {
	if p.sees(")") {
		return nil
	}
	first := p.param()
	list := []Param{first}
	more := p.skip(",")
	if more {
		second := p.param()
		list = append(list, second)
	}
	return list
}

func (p *parser) param() Param {
	name := p.wantKind(words.Name)
	p.want(":")
	kind := p.typeOf(true)
	return Param{name, kind}
}

// typeOf reads a type, or a sig, in which lifetimes may stand.
func (p *parser) typeOf(sig bool) Type {
	t := Type{At: p.word().At}
	p.signs(&t, sig)
	return t
}

func (p *parser) signs(t *Type, sig bool) {
	switch p.fixed() {
	case "int":
		p.pass()
		t.Signs += "i"
	case "box":
		p.pass()
		t.Signs += "b"
		p.signs(t, sig)
	case "&":
		p.pass()
		p.reference(t, sig)
		p.signs(t, sig)
	case "[":
		p.pass()
		t.Signs += "p"
		p.signs(t, sig)
		p.want(",")
		p.signs(t, sig)
		p.want("]")
	default:
		p.fail()
	}
}

func (p *parser) reference(t *Type, sig bool) {
	life := ""
	w := p.word()
	if sig && w.Kind == words.Life {
		life = w.Text
		p.pass()
	}
	t.Lives = append(t.Lives, life)
	mut := p.skip("mut")
	if mut {
		t.Signs += "m"
	} else {
		t.Signs += "r"
	}
}

func (p *parser) block() Block {
	var list []Statement
	p.want("{")
	for !p.failed && !p.sees("}") {
		s := p.statement()
		list = append(list, s)
	}
	end := p.want("}")
	return Block{list, end}
}

func (p *parser) statement() Statement {
	at := p.word().At
	switch p.fixed() {
	case "let":
		return p.let(at)
	case "drop":
		return p.ofPlace(Drop, at)
	case "out":
		return p.ofPlace(Out, at)
	case "if":
		return p.branch(at)
	case "while":
		return p.loop(at)
	case "{":
		body := p.block()
		return Statement{Kind: Inner, At: at, Body: body}
	}
	return p.assign(at)
}

func (p *parser) let(at words.Spot) Statement {
	p.want("let")
	name := p.wantKind(words.Name)
	p.want(":")
	kind := p.typeOf(false)
	p.want(";")
	return Statement{Kind: Let, At: at, Name: name, Type: kind}
}

// ofPlace reads a statement that is a keyword and a place.
func (p *parser) ofPlace(kind int, at words.Spot) Statement {
	p.pass()
	place := p.place()
	p.want(";")
	return Statement{Kind: kind, At: at, Place: place}
}

func (p *parser) branch(at words.Spot) Statement {
	p.want("if")
	test := p.operand()
	body := p.block()
	var other Block
	more := p.skip("else")
	if more {
		other = p.block()
	}
	return Statement{Kind: If, At: at, Test: test, Body: body, Other: other}
}

func (p *parser) loop(at words.Spot) Statement {
	p.want("while")
	test := p.operand()
	body := p.block()
	return Statement{Kind: While, At: at, Test: test, Body: body}
}

func (p *parser) assign(at words.Spot) Statement {
	place := p.place()
	p.want("=")
	value := p.value()
	p.want(";")
	return Statement{Kind: Assign, At: at, Place: place, Value: value}
}
