package syntax

import "borrowing/words"

// parser goes from word to word. Each word is asked for as soon as it is met, so that a fault is at the first word with which no program goes on.
type parser struct {
	list   []words.Word
	at     int
	failed bool
	fault  words.Spot
}

// Parse tells the program that a text is; else false, and the first word with which no program goes on.
func Parse(text string) (Program, words.Spot, bool) {
	p := parser{list: words.Split(text)}
	program := p.program()
	if p.failed {
		return Program{}, p.fault, false
	}
	return program, words.Spot{}, true
}

// word tells the next word. Behind a fault it is one that no rule takes, so that every rule is soon at its end.
func (p *parser) word() words.Word {
	if p.failed || p.at >= len(p.list) {
		return words.Word{}
	}
	return p.list[p.at]
}

// fixed tells the keyword or sign that comes next ("": something else does).
func (p *parser) fixed() string {
	w := p.word()
	if w.Kind != words.Fixed {
		return ""
	}
	return w.Text
}

func (p *parser) sees(text string) bool {
	return p.fixed() == text
}

func (p *parser) pass() {
	if !p.failed && p.at < len(p.list) {
		p.at++
	}
}

// skip passes a keyword or a sign, if it comes next.
func (p *parser) skip(text string) bool {
	seen := p.sees(text)
	if seen {
		p.pass()
	}
	return seen
}

// want passes a keyword or a sign that must come next, and tells where it is.
func (p *parser) want(text string) words.Spot {
	at := p.word().At
	seen := p.skip(text)
	if !seen {
		p.fail()
	}
	return at
}

// wantKind passes a word that must be of this kind.
func (p *parser) wantKind(kind int) words.Word {
	w := p.word()
	if w.Kind != kind {
		p.fail()
		return words.Word{}
	}
	p.pass()
	return w
}

func (p *parser) fail() {
	if !p.failed {
		p.fault = p.word().At
		p.failed = true
	}
}
