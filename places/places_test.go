package places

import "testing"

func TestPlaces(t *testing.T) {
	for _, c := range []struct {
		whole, steps         string
		signs                string
		behind, shared       bool
		first, count, direct int
		ahead                int
	}{
		{"i", "", "i", false, false, 0, 1, 0, 0},
		{"pii", "", "pii", false, false, 0, 2, 0, 0},
		{"pii", "1", "i", false, false, 1, 1, 1, 0},
		{"ppiipri" + "mi", "10", "ri", false, false, 2, 1, 2, 0},
		{"ppiipri" + "mi", "11", "mi", false, false, 3, 1, 2, 1},
		{"ppiipri" + "mi", "11*", "i", true, false, 3, 1, 2, 2},
		{"bi", "*", "i", true, false, 0, 1, 0, 0},
		{"pibpri" + "mi", "1*1*", "i", true, false, 1, 1, 1, 2},
		{"pibpri" + "mi", "1*0*", "i", true, true, 1, 1, 1, 1},
		{"mrmi", "*", "rmi", true, false, 0, 1, 0, 1},
		{"mrmi", "***", "i", true, true, 0, 1, 0, 3},
		{"prrimi", "1", "mi", false, false, 1, 1, 1, 2},
	} {
		p := Place{Steps: c.steps, Whole: c.whole}
		if p.Type() != c.signs || p.Behind() != c.behind || p.Shared() != c.shared || p.Direct() != c.direct || p.Ahead() != c.ahead {
			t.Errorf("%q %q: type %q, behind %t, shared %t, direct %d, ahead %d", c.whole, c.steps, p.Type(), p.Behind(), p.Shared(), p.Direct(), p.Ahead())
		}
		if first, count := p.Cover(); first != c.first || count != c.count {
			t.Errorf("%q %q: covers %d from %d", c.whole, c.steps, count, first)
		}
	}
}

func TestThroughMut(t *testing.T) {
	for _, c := range []struct {
		whole, steps string
		from         int
		want         bool
	}{
		{"mi", "*", 0, true}, {"mi", "*", 1, false}, {"ri", "*", 0, false}, {"bmi", "**", 0, true}, {"bmi", "**", 1, true}, {"mbi", "**", 1, false}, {"mbi", "**", 0, true}, {"pimi", "1*", 1, true}, {"mi", "", 0, false},
	} {
		if got := (Place{Steps: c.steps, Whole: c.whole}).ThroughMut(c.from); got != c.want {
			t.Errorf("%q %q from %d: %t", c.whole, c.steps, c.from, got)
		}
	}
}

func TestBegins(t *testing.T) {
	for _, c := range []struct {
		one, two string
		want     bool
	}{
		{"", "", true}, {"", "0*", true}, {"0", "0*", true}, {"0*", "0", false}, {"1", "0*", false}, {"0*1", "0*1", true},
	} {
		if got := (Place{Steps: c.one}).Begins(Place{Steps: c.two}); got != c.want {
			t.Errorf("%q begins %q: %t", c.one, c.two, got)
		}
	}
	p := Place{Var: 3, Steps: "0*1", Whole: "pbpiii"}
	if up := p.Up(2); up.Steps != "0*" || up.Var != 3 || up.Whole != p.Whole {
		t.Errorf("Up: %+v", up)
	}
	if p.Up(3) != p || p.Up(9) != p || p.Up(-1) != p {
		t.Errorf("Up of no steps: %+v, %+v, %+v", p.Up(3), p.Up(9), p.Up(-1))
	}
}
