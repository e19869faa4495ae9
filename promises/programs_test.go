package promises

import (
	"fmt"
	"strings"
	"testing"

	"borrowing/api"
	"borrowing/borrowing"
)

// spot: a place that a program may name, with its text, its type, whether it is behind a star, and behind a shared reference; and its variable.
type spot struct {
	text, signs    string
	behind, shared bool
	of             *variable
}

// variable: full tells whether it most likely has a value: programs of which all stop at their first point tell little.
type variable struct {
	name, signs string
	full        bool
}

// writer: programs by chance that have a graph.
type writer struct {
	d     *dice
	kinds []string
	ready []string // types of variables that have values from the program's start
	names int
	scope []*variable
	funcs []signature
}

type signature struct {
	name   string
	params []string
	result string
}

// kinds: the types of variables: numbers, boxes, references, references to and in others, pairs.
var kinds = []string{"i", "i", "i", "bi", "bi", "ri", "ri", "mi", "mi", "mi", "pii", "pbii", "rbi", "mbi", "rmi", "mmi", "bbi", "bmi", "bri", "mpii", "rpii", "mri", "primi", "bpii", "mpbii", "rri", "piri"}

var tangleKinds = []string{"i", "bi", "ri", "ri", "mi", "mi", "mi", "rri", "mri", "mri", "mmi", "mmi", "rmi", "bri", "bmi", "mbi", "piri", "prii", "primi", "pmimi", "mpiri", "rpii", "mpii", "mbri", "mmri"}

// takeType: the first type of some signs, and the rest.
func takeType(signs string) (string, string) {
	if signs[0] == 'i' {
		return "i", signs[1:]
	}
	one, rest := takeType(signs[1:])
	if signs[0] != 'p' {
		return signs[:1] + one, rest
	}
	two, rest := takeType(rest)
	return "p" + one + two, rest
}

func halves(signs string) (string, string) {
	one, two := takeType(signs[1:])
	return one, two
}

// isMoved: whether a value is moved when it is used.
func isMoved(signs string) bool {
	switch signs[0] {
	case 'p':
		one, two := halves(signs)
		return isMoved(one) || isMoved(two)
	case 'b', 'm':
		return true
	}
	return false
}

func spell(signs string) string {
	switch signs[0] {
	case 'b':
		return "box " + spell(signs[1:])
	case 'r':
		return "&" + spell(signs[1:])
	case 'm':
		return "&mut " + spell(signs[1:])
	case 'p':
		one, two := halves(signs)
		return "[" + spell(one) + "," + spell(two) + "]"
	}
	return "int"
}

// within: a place and all that lie within it or behind it.
func within(s spot) []spot {
	list := []spot{s}
	switch s.signs[0] {
	case 'p':
		one, two := halves(s.signs)
		base := s.text
		if base[0] == '*' {
			base = "(" + base + ")"
		}
		list = append(list, within(spot{base + ".0", one, s.behind, s.shared, s.of})...)
		list = append(list, within(spot{base + ".1", two, s.behind, s.shared, s.of})...)
	case 'b', 'm', 'r':
		list = append(list, within(spot{"*" + s.text, s.signs[1:], true, s.shared || s.signs[0] == 'r', s.of})...)
	}
	return list
}

func (v *variable) spot() spot { return spot{text: v.name, signs: v.signs, of: v} }

// pick: one of the places that will do, seldom one without a value; false: there is none.
func (w *writer) pick(fits func(s spot) bool) (spot, bool) {
	var list []spot
	any := w.d.below(30) == 0
	for _, v := range w.scope {
		for _, s := range within(v.spot()) {
			if (any || v.full) && fits(s) {
				list = append(list, s)
			}
		}
	}
	if len(list) == 0 {
		return spot{}, false
	}
	return list[w.d.below(len(list))], true
}

func (w *writer) operand(signs string) string {
	s, ok := w.pick(func(s spot) bool { return s.signs == signs && !(s.behind && isMoved(signs)) })
	if signs == "i" && (!ok || w.d.below(3) == 0) {
		return []string{"?", "1", "2", "9999", "0"}[w.d.below(5)]
	}
	if ok && isMoved(signs) {
		s.of.full = false
	}
	return s.text
}

func join(ahead, one, between, two, behind string) string {
	if one == "" || two == "" {
		return ""
	}
	return ahead + one + between + two + behind
}

// value: a value of this type; "": none was found.
func (w *writer) value(signs string) string {
	for _, f := range w.funcs {
		if f.result == signs && w.d.below(3) == 0 {
			return w.call(f)
		}
	}
	if w.d.below(3) == 0 {
		return w.operand(signs)
	}
	switch signs[0] {
	case 'i':
		return join("", w.operand("i"), "+", w.operand("i"), "")
	case 'b':
		return join("box ", w.operand(signs[1:]), "", " ", "")
	case 'p':
		one, two := halves(signs)
		return join("[", w.operand(one), ",", w.operand(two), "]")
	}
	s, ok := w.pick(func(s spot) bool { return s.signs == signs[1:] && !(s.shared && signs[0] == 'm') })
	if !ok {
		return ""
	}
	if signs[0] == 'm' {
		return "&mut " + s.text
	}
	return "&" + s.text
}

func (w *writer) call(f signature) string {
	var list []string
	for _, p := range f.params {
		o := w.operand(p)
		if o == "" {
			return ""
		}
		list = append(list, o)
	}
	return f.name + "(" + strings.Join(list, ",") + ")"
}

// assign: an assignment to some place that may be written.
func (w *writer) assign() string {
	s, ok := w.pick(func(s spot) bool { return !s.shared })
	if w.d.below(4) == 0 && len(w.scope) > 0 {
		s, ok = w.scope[w.d.below(len(w.scope))].spot(), true
	}
	if !ok {
		return ""
	}
	return w.give(s)
}

func (w *writer) give(s spot) string {
	for n := 0; n < 4; n++ {
		if v := w.value(s.signs); v != "" {
			if s.text == s.of.name {
				s.of.full = true
			}
			return s.text + "=" + v + ";"
		}
	}
	return ""
}

func (w *writer) kind() string { return w.kinds[w.d.below(len(w.kinds))] }

func (w *writer) fresh() string {
	w.names++
	return fmt.Sprintf("v%d", w.names-1)
}

// let: a variable, most often with a value.
func (w *writer) let() string {
	v := &variable{name: w.fresh()}
	value := ""
	for n := 0; n < 5 && value == ""; n++ {
		v.signs = w.kind()
		value = w.give(v.spot())
	}
	w.scope = append(w.scope, v)
	text := "let " + v.name + ":" + spell(v.signs) + ";"
	if w.d.below(8) > 0 {
		return text + value
	}
	v.full = false
	return text
}

func (w *writer) statement(deep int) string {
	switch n := w.d.below(16); {
	case n < 5:
		return w.let()
	case n < 10:
		return w.assign()
	case n < 12:
		if s, ok := w.pick(func(s spot) bool { return s.signs == "i" }); ok {
			return "out " + s.text + ";"
		}
	case n < 13:
		if s, ok := w.pick(func(s spot) bool { return !s.behind }); ok {
			s.of.full = false
			return "drop " + s.text + ";"
		}
	case deep == 0:
	case n < 14:
		return "if " + w.operand("i") + w.block(deep-1)
	case n < 15:
		return "while " + w.operand("i") + w.block(deep-1)
	default:
		return w.block(deep - 1)
	}
	return ""
}

func (w *writer) block(deep int) string {
	outer := len(w.scope)
	text := "{"
	for n := 1 + w.d.below(6+deep*3); n > 0; n-- {
		text += w.statement(deep)
	}
	w.scope = w.scope[:outer:outer]
	return text + "}"
}

func (w *writer) function(f signature) string {
	w.scope = nil
	text := "fn " + f.name + "("
	for i, p := range f.params {
		v := &variable{name: w.fresh(), signs: p, full: true}
		w.scope = append(w.scope, v)
		if i > 0 {
			text += ","
		}
		text += v.name + ":" + w.sign(p)
	}
	ret := &variable{name: "ret", signs: f.result}
	w.scope = append(w.scope, ret)
	body := w.block(1)
	last := w.give(ret.spot())
	return text + "):" + w.sign(f.result) + body[:len(body)-1] + last + "}"
}

// sign: a type as a signature spells it, most references with one of two lifetimes.
func (w *writer) sign(signs string) string {
	parts := strings.SplitAfter(spell(signs), "&")
	for i := 0; i < len(parts)-1; i++ {
		parts[i] += []string{"", "'a ", "'a ", "'a ", "'b "}[w.d.below(5)]
	}
	return strings.Join(parts, "")
}

func (w *writer) program() string {
	w.names, w.funcs = 0, nil
	for n := w.d.below(3); n > 0; n-- {
		f := signature{name: "f" + fmt.Sprint(n), result: w.kind()}
		for k := w.d.below(3); k > 0; k-- {
			f.params = append(f.params, w.kind())
		}
		w.funcs = append(w.funcs, f)
	}
	text := ""
	for _, f := range w.funcs {
		text += w.function(f)
	}
	w.scope = nil
	return text + "{" + w.prepare() + w.block(2)[1:]
}

// prepare: the variables that have values from the start.
func (w *writer) prepare() string {
	text := ""
	for _, signs := range w.ready {
		v := &variable{name: w.fresh(), signs: signs}
		text += "let " + v.name + ":" + spell(signs) + ";" + w.give(v.spot())
		w.scope = append(w.scope, v)
	}
	return text
}

// programs: many programs by chance that have a graph.
func programs(t *testing.T, seed uint64, many int) []string {
	t.Helper()
	return written(t, &writer{d: &dice{seed}, kinds: kinds}, many)
}

// tangles: programs by chance in which references abound.
func tangles(t *testing.T, seed uint64, many int) []string {
	t.Helper()
	return written(t, &writer{d: &dice{seed}, kinds: tangleKinds, ready: []string{"i", "i", "ri", "mi"}}, many)
}

// braids: programs by chance in which references are handed on from variable to variable.
func braids(t *testing.T, seed uint64, many int) []string {
	t.Helper()
	return written(t, &writer{d: &dice{seed}, kinds: []string{"ri", "ri", "ri", "ri", "bri", "piri", "rri", "mri", "i"}, ready: []string{"i", "ri", "ri", "ri", "mri"}}, many)
}

func written(t *testing.T, w *writer, many int) []string {
	t.Helper()
	var list []string
	for tries := 0; len(list) < many; tries++ {
		if tries > 20*many {
			t.Fatalf("%d programs only", len(list))
		}
		text := w.program()
		if len(text) > api.MaxText {
			continue
		}
		if _, _, _, v := borrowing.Graph(text); v.Rule != api.Accept {
			t.Fatalf("Graph(%q): %s, want Accept", text, showVerdict(v))
		}
		list = append(list, text)
	}
	return list
}
