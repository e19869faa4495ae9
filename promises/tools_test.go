// Package promises tests what DOC.md promises, by the calls of the program alone.
package promises

import (
	"fmt"
	"strings"
	"testing"

	"borrowing/api"
	"borrowing/borrowing"
)

var ruleNames = []string{"Accept", "RLong", "RParse", "RName", "RTwice", "RBig", "RField", "RDeref", "RShared", "RMoveOut", "RType", "RUninit", "RBorrowed", "RCall", "ROutlives"}

func showVerdict(v api.Verdict) string {
	name := fmt.Sprint(v.Rule)
	if v.Rule >= 0 && v.Rule < len(ruleNames) {
		name = ruleNames[v.Rule]
	}
	return fmt.Sprintf("%s %d:%d point %d loan %d", name, v.Line, v.Col, v.Point, v.Loan)
}

// marked: a text without its mark, an @, and the line and column at which the mark stood.
func marked(t *testing.T, text string) (string, int, int) {
	t.Helper()
	at := strings.IndexByte(text, '@')
	if at < 0 || strings.Count(text, "@") != 1 {
		t.Fatalf("%q: one mark is wanted", text)
	}
	ahead := text[:at]
	return ahead + text[at+1:], strings.Count(ahead, "\n") + 1, at - strings.LastIndexByte(ahead, '\n')
}

// wantAt: the text breaks this rule there, and nothing else comes out; Check says the same.
func wantAt(t *testing.T, text string, rule, line, col int) {
	t.Helper()
	p, l, f, v := borrowing.Graph(text)
	want := api.Verdict{Rule: rule, Line: line, Col: col, Point: -1, Loan: -1}
	if v != want {
		t.Errorf("Graph(%.600q): %s, want %s", text, showVerdict(v), showVerdict(want))
	}
	if c := borrowing.Check(text); c != want {
		t.Errorf("P21: Check(%.600q): %s, want %s", text, showVerdict(c), showVerdict(want))
	}
	if p != nil || l != nil || f != nil {
		t.Errorf("Graph(%.600q): lists beside a broken rule: %d points, %d variables, %d functions", text, len(p), len(l), len(f))
	}
}

// wantRule: the text breaks this rule at its mark.
func wantRule(t *testing.T, rule int, text string) {
	t.Helper()
	plain, line, col := marked(t, text)
	wantAt(t, plain, rule, line, col)
}

// graph: the graph of a text that must have one.
func graph(t *testing.T, text string) ([]api.Point, []api.Local, []api.Func) {
	t.Helper()
	p, l, f, v := borrowing.Graph(text)
	if v != (api.Verdict{Rule: api.Accept, Point: -1, Loan: -1}) {
		t.Fatalf("Graph(%.600q): %s, want Accept", text, showVerdict(v))
	}
	if len(p) == 0 || len(f) == 0 {
		t.Fatalf("Graph(%.600q): %d points, %d functions", text, len(p), len(f))
	}
	return p, l, f
}

var pointKinds = []string{"?", "let", "assign", "drop", "out", "test", "dead", "end"}
var valueKinds = []string{"", "use", "ref", "mut", "box", "pair", "sum", "call"}

func nameOf(names []string, n int) string {
	if n < 0 || n >= len(names) {
		return fmt.Sprintf("?%d", n)
	}
	return names[n]
}

func showOperand(o api.Opnd) string {
	switch o.Kind {
	case api.None:
		if o == (api.Opnd{}) {
			return ""
		}
	case api.Number:
		if o.Proj == "" {
			return fmt.Sprintf(" %d", o.N)
		}
	case api.Input:
		if o == (api.Opnd{Kind: api.Input}) {
			return " ?"
		}
	case api.Place:
		return fmt.Sprintf(" v%d%s", o.N, withPoint(o.Proj))
	}
	return fmt.Sprintf(" %+v", o)
}

func withPoint(steps string) string {
	if steps == "" {
		return ""
	}
	return "." + steps
}

// showPoint: a point as a text, all of its fields. What is assigned to stands in any case, for 0 is a variable, too.
func showPoint(p api.Point) string {
	s := fmt.Sprintf("%d:%d %s %d%s", p.Line, p.Col, nameOf(pointKinds, p.Kind), p.DVar, withPoint(p.DProj))
	if p.Rv != 0 {
		s += " " + nameOf(valueKinds, p.Rv)
	}
	if p.Fn != 0 {
		s += fmt.Sprintf(" f%d", p.Fn)
	}
	s += showOperand(p.A)
	if p.B != (api.Opnd{}) {
		s += "," + showOperand(p.B)
	}
	s += fmt.Sprintf(" >%d", p.Next)
	if p.Else != -1 {
		s += fmt.Sprintf(" /%d", p.Else)
	}
	return s
}

func showLocal(l api.Local) string {
	return l.Name + " " + l.Type + " " + l.Life
}

func showFunc(f api.Func) string {
	return fmt.Sprintf("%s %d..%d param %d n %d ret %d lives %d", f.Name, f.Entry, f.End, f.Param, f.N, f.Ret, f.Lives)
}

func compare(t *testing.T, text, what string, got, want []string) {
	t.Helper()
	if len(got) != len(want) {
		t.Errorf("Graph(%q): %d %ss, want %d: %q", text, len(got), what, len(want), got)
		return
	}
	for i := range got {
		if got[i] != want[i] {
			t.Errorf("Graph(%q): %s %d is %q, want %q", text, what, i, got[i], want[i])
		}
	}
}

func showPoints(list []api.Point) []string {
	var out []string
	for _, p := range list {
		out = append(out, showPoint(p))
	}
	return out
}

func showLocals(list []api.Local) []string {
	var out []string
	for _, l := range list {
		out = append(out, showLocal(l))
	}
	return out
}

func showFuncs(list []api.Func) []string {
	var out []string
	for _, f := range list {
		out = append(out, showFunc(f))
	}
	return out
}

// withoutSpots: the points as texts, less their lines and columns.
func withoutSpots(list []api.Point) []string {
	var out []string
	for _, p := range list {
		p.Line, p.Col = 0, 0
		out = append(out, showPoint(p))
	}
	return out
}

// dice: numbers that are the same in every run.
type dice struct{ state uint64 }

func (d *dice) below(n int) int {
	d.state = d.state*6364136223846793005 + 1442695040888963407
	return int((d.state >> 33) % uint64(n))
}
