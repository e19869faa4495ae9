package promises

import (
	"reflect"
	"strings"
	"testing"

	"borrowing/api"
	"borrowing/borrowing"
	"borrowing/machine"
)

var seeds = []string{
	"",
	"{let a:int; a=1; out a;}",
	"{let x:int; if ? {x=1;} else {if ? {x=2;}} while ? {} out x;}",
	"fn f(x:&'a mut [&'b int,int], y:&int):[int,&'b int] {let k:int; k=(*x).1+*y; ret=[k,(*x).0];}\n{let n:int; n=2; let q:&int; q=&n;}",
	"fn f(n:int):int {let m:int; if n {m=n+9999; m=f(m); ret=m+2;} else {ret=5;}}{let a:int; a=3; a=f(a); out a;}",
	"{let b:box [box int,&mut int]; drop b; *(((*b).0))=*b.0(1,?); # all\n}",
	"fn f(x:&'a mut &'b int,y:&'b int):&'b int {*x=y; ret=&**x;}{let a:int; a=1; let r:&int; r=&a; let b:&mut &int; b=&mut r; r=f(b,r); out *r;}",
}

// wellFormed: what holds of every answer.
func wellFormed(t *testing.T, text string) {
	t.Helper()
	p, l, f, v := borrowing.Graph(text)
	if v.Point != -1 || v.Loan != -1 {
		t.Fatalf("P9: Graph(%q): %s", text, showVerdict(v))
	}
	judged(t, text, p, v)
	m, own := machine.New(text)
	if own != v || (m == nil) != (v.Rule != api.Accept) {
		t.Fatalf("P11: New(%q): a machine: %v; %s, of Graph %s", text, m != nil, showVerdict(own), showVerdict(v))
	}
	for n := 0; m != nil && n < 40 && m.Step(-n) == api.Ran; n++ {
		m.Show()
	}
	if v.Rule != api.Accept {
		if p != nil || l != nil || f != nil {
			t.Fatalf("P9: Graph(%q): %s, and lists", text, showVerdict(v))
		}
		if v.Rule != api.RLong && (v.Line < 1 || v.Col < 1) {
			t.Fatalf("P3: Graph(%q): %s", text, showVerdict(v))
		}
		return
	}
	if v.Line != 0 || v.Col != 0 || len(p) == 0 || len(f) == 0 {
		t.Fatalf("P9: Graph(%q): %s, %d points", text, showVerdict(v), len(p))
	}
	for i, q := range p {
		if q.Next < -1 || q.Next >= len(p) || q.Else < -1 || q.Else >= len(p) || (q.Next == -1) != (q.Kind == api.End) || (q.Else != -1) != (q.Kind == api.Test) {
			t.Fatalf("P9: Graph(%q): point %d: %s", text, i, showPoint(q))
		}
		if q.DVar < 0 || q.DVar > len(l) || q.Rv == api.Call && q.Fn >= len(f)-1 {
			t.Fatalf("P9: Graph(%q): point %d: %s", text, i, showPoint(q))
		}
	}
}

// judged: what holds of every verdict of Check beside that of Graph, and of its reason.
func judged(t *testing.T, text string, points []api.Point, own api.Verdict) {
	t.Helper()
	v := borrowing.Check(text)
	switch {
	case own.Rule != api.Accept || v.Rule == api.Accept:
		if v != own {
			t.Fatalf("P21: Check(%q): %s, of Graph %s", text, showVerdict(v), showVerdict(own))
		}
	case v.Rule != api.RUninit && v.Rule != api.ROutlives && v.Rule != api.RBorrowed,
		v.Point < 0 || v.Point >= len(points),
		v.Line != points[v.Point].Line || v.Col != points[v.Point].Col,
		(v.Rule == api.RBorrowed) != (v.Loan >= 0),
		v.Loan < -1 || v.Loan >= len(points),
		v.Loan >= 0 && points[v.Loan].Rv != api.Ref && points[v.Loan].Rv != api.Mut:
		t.Fatalf("P21: Check(%q): %s", text, showVerdict(v))
	}
	j := &judge{}
	if own.Rule == api.Accept {
		j = newJudge(graph(t, text))
	}
	if r := why(text); j.flaw(v, r) != "" {
		t.Fatalf("P22: Why(%q): %s: %s (%s)", text, r, j.flaw(v, r), showVerdict(v))
	}
}

func TestP1AnyBytes(t *testing.T) {
	d := &dice{1}
	for round := 0; round < 20000; round++ {
		text := make([]byte, d.below(40))
		for i := range text {
			text[i] = byte(d.below(256))
		}
		wellFormed(t, string(text))
	}
}

func TestP1BrokenPrograms(t *testing.T) {
	const signs = "&*()[]{};:=+,.?' \n\t#ab01xf"
	d := &dice{2}
	for round := 0; round < 40000; round++ {
		text := []byte(seeds[d.below(len(seeds))])
		for n := 1 + d.below(3); n > 0 && len(text) > 0; n-- {
			at := d.below(len(text))
			switch d.below(4) {
			case 0:
				text[at] = signs[d.below(len(signs))]
			case 1:
				text = append(text[:at:at], text[at+1:]...)
			case 2:
				text = append(text[:at:at], append([]byte{signs[d.below(len(signs))]}, text[at:]...)...)
			case 3:
				text = text[:at]
			}
		}
		wellFormed(t, string(text))
	}
}

func TestP1DeepTexts(t *testing.T) {
	for _, c := range []struct {
		text string
		rule int
	}{
		{strings.Repeat("{", 256) + strings.Repeat("}", 256), api.Accept},
		{strings.Repeat("{", 512), api.RParse},
		{"{" + strings.Repeat("*", 511), api.RParse},
		{"{" + strings.Repeat("*", 500) + "x=1;}", api.RName},
		{"{" + strings.Repeat("(", 250) + "x" + strings.Repeat(")", 250) + "=1;}", api.RName},
		{"{let x:" + strings.Repeat("&", 490) + "int;}", api.Accept},
		{"{let x:" + strings.Repeat("[", 490), api.RParse},
		{"{let x:" + strings.Repeat("[int,", 82) + "int" + strings.Repeat("]", 82) + ";}", api.RBig},
		{"{" + strings.Repeat("if ? {", 70) + strings.Repeat("}", 71), api.Accept},
		{"{" + strings.Repeat("while ? {", 50) + strings.Repeat("}", 51), api.Accept},
		{"{x" + strings.Repeat(".0", 250) + "=1;}", api.RName},
		{strings.Repeat("fn f():int{}", 40) + "{}", api.RTwice},
		{strings.Repeat("\n", 510) + "{}", api.Accept},
		{strings.Repeat("\x00", 512), api.RParse},
		{strings.Repeat("{}", 1<<20), api.RLong},
	} {
		_, _, _, v := borrowing.Graph(c.text)
		if v.Rule != c.rule {
			t.Errorf("P1: Graph(%.40q..): %s, want %s", c.text, showVerdict(v), ruleNames[c.rule])
		}
		wellFormed(t, c.text)
	}
}

func TestP2TheTextAlone(t *testing.T) {
	texts := append([]string{"{let r:&int; let x:int; r=&x;}", "}", "{x=1;}", "fn f():int {ret=1;}{let f:int; f=f();}", strings.Repeat(" ", 513)}, seeds...)
	first := map[string]string{}
	for round := 0; round < 3; round++ {
		for i := range texts {
			text := texts[i]
			if round == 1 {
				text = texts[len(texts)-1-i]
			}
			p, l, f, v := borrowing.Graph(text)
			s := showVerdict(v) + strings.Join(showPoints(p), ";") + strings.Join(showLocals(l), ";") + strings.Join(showFuncs(f), ";")
			if round == 0 {
				first[text] = s
			}
			if s != first[text] {
				t.Errorf("P2: Graph(%q): %s at one time, %s at another", text, first[text], s)
			}
		}
	}
}

func TestP2FreshLists(t *testing.T) {
	for _, text := range []string{
		"{}",
		"{let a:int; a=1; out a;}",
		"{let a:int; let b:int; let c:int; a=1; b=a+1; c=b+a; out c; drop c;}",
		"fn f():int {ret=1;}{}",
		"fn f(x:&int,y:box int):int {ret=1;} fn g(a:int):int {let k:int; k=a; ret=k;} fn h():int {ret=2;}{let f:int; f=h();}",
		"{let a:int; let b:int; let c:int; let d:int; let e:int; let f:int; let g:int; let h:int; let i:int;}",
	} {
		p, l, f := graph(t, text)
		if cap(p) != len(p) || cap(l) != len(l) || cap(f) != len(f) {
			t.Errorf("P2: Graph(%q): spare room: %d of %d, %d of %d, %d of %d", text, len(p), cap(p), len(l), cap(l), len(f), cap(f))
		}
		if len(l) == 0 && l != nil {
			t.Errorf("P2: Graph(%q): no variables, and the list is not nil", text)
		}
		keepP, keepL, keepF := append([]api.Point(nil), p...), append([]api.Local(nil), l...), append([]api.Func(nil), f...)
		againP, againL, againF := graph(t, text)
		for i := range p {
			p[i] = api.Point{Kind: 99, DProj: "mine"}
		}
		for i := range l {
			l[i] = api.Local{Name: "mine"}
		}
		for i := range f {
			f[i] = api.Func{Name: "mine"}
		}
		lastP, lastL, lastF := graph(t, text)
		for _, pair := range [][2]any{{againP, keepP}, {againF, keepF}, {lastP, keepP}, {lastF, keepF}} {
			if !reflect.DeepEqual(pair[0], pair[1]) {
				t.Errorf("P2: Graph(%q): %+v, want %+v: lists of two answers share memory", text, pair[0], pair[1])
			}
		}
		compare(t, text, "variable", showLocals(againL), showLocals(keepL))
		compare(t, text, "variable", showLocals(lastL), showLocals(keepL))
	}
}
