package promises

import (
	"strings"
	"testing"

	"borrowing/api"
	"borrowing/borrowing"
	"borrowing/machine"
)

// safe: a program that the checker accepts runs without a fault, whatever its inputs; it tells how many loans a run made.
func safe(t *testing.T, text string, d *dice) int {
	t.Helper()
	made := 0
	for round := 0; round < 6; round++ {
		m, end := start(t, text), api.Ran
		var inputs []int
		for n := 0; n < 250 && end == api.Ran; n++ {
			in := d.below(4)
			switch round {
			case 0:
				in = 0
			case 1:
				in = 3
			}
			inputs = append(inputs, in)
			end = m.Step(in)
		}
		if end != api.Ran && end != api.Done && end != api.Full {
			t.Fatalf("P21: Check(%q) is Accept, but its machine answers %d at %d, with the inputs %v", text, end, m.Pc(), inputs)
		}
		made = max(made, strings.Count(m.Show(), "\n/"))
	}
	return made
}

var linesOf = strings.NewReplacer(";", ";\n", "{", "{\n", "}", "}\n")

// mended: a program from which statements that the checker refuses, or what they conflict with, are struck until it accepts the rest; "": it came to no end. Each text on the way is shown.
func mended(t *testing.T, text string, d *dice, show func(text string, v api.Verdict)) string {
	t.Helper()
	lines := strings.Split(linesOf.Replace(text), "\n")
	for {
		text := strings.Join(lines, "\n")
		v := borrowing.Check(text)
		show(text, v)
		if v.Rule == api.Accept {
			return text
		}
		if v.Point < 0 {
			return ""
		}
		points, _, _ := graph(t, text)
		strike := -1
		for _, at := range []int{v.Point, v.Loan} {
			if at >= 0 && (points[at].Kind == api.Assign || points[at].Kind == api.Out || points[at].Kind == api.Drop) && (strike < 0 || d.below(2) == 0) {
				strike = points[at].Line - 1
			}
		}
		if strike < 0 {
			return ""
		}
		lines[strike] = ""
	}
}

// TestP21AcceptedIsSafe: accepted programs, most of which are what is left of refused ones, so that they stand close to the rules' edges.
func TestP21AcceptedIsSafe(t *testing.T) {
	d := &dice{5}
	many, lending := 0, 0
	for _, text := range append(programs(t, 41, 800), tangles(t, 42, 2500)...) {
		text = mended(t, text, d, func(string, api.Verdict) {})
		if text == "" {
			continue
		}
		many++
		if safe(t, text, d) > 1 {
			lending++
		}
	}
	if many < 1200 || lending < 800 {
		t.Errorf("%d programs were accepted, of which %d make loans", many, lending)
	}
}

// TestP21FaultsAreRefused: the checker refuses programs that run into a fault, and tells the rule that belongs to it.
func TestP21FaultsAreRefused(t *testing.T) {
	faults := map[int]int{}
	for _, text := range append(programs(t, 43, 1000), tangles(t, 44, 2000)...) {
		m, _ := machine.New(text)
		end := api.Ran
		for n := 0; n < 250 && end == api.Ran; n++ {
			end = m.Step(n)
		}
		if end < api.FNever {
			continue
		}
		faults[end]++
		if v := borrowing.Check(text); v.Rule != api.RUninit && v.Rule != api.ROutlives && v.Rule != api.RBorrowed {
			t.Fatalf("P21: Check(%q): %s, but its machine answers %d at %d", text, showVerdict(v), end, m.Pc())
		}
	}
	for _, end := range []int{api.FNever, api.FMoved, api.FDropped, api.FDangling, api.FConflict} {
		if faults[end] == 0 {
			t.Errorf("no program runs into %d", end)
		}
	}
}

// TestP20ReturnedReferences: what a function hands out of itself by its result or its parameters is still there.
func TestP20ReturnedReferences(t *testing.T) {
	for _, text := range []string{
		"fn f(x:&'a mut &'b int):int {ret=1; *x=&ret;}{let a:int; a=1; let r:&int; r=&a; let m:&mut &int; m=&mut r; let z:int; z=f(m); out *r;}",
		"fn f():[&'a int,int] {ret.1=1; ret.0=&ret.1;}{let p:[&int,int]; p=f(); out *p.0;}",
		"fn f(y:int):&'a int {ret=&y;}{let r:&int; r=f(1); out *r;}",
		"fn f(x:&'a mut &'b int,y:int):int {ret=1; *x=&y;}{let a:int; a=1; let r:&int; r=&a; let m:&mut &int; m=&mut r; let z:int; z=f(m,2); out *r;}",
		"fn f(y:box int):&'a int {ret=&*y;}{let b:box int; b=box 1; let r:&int; r=f(b); out *r;}",
	} {
		_, end := run(t, text, 0, 0)
		if v := borrowing.Check(text); v.Rule != api.RBorrowed || end != api.FDangling {
			t.Errorf("P20: Check(%q): %s; its machine answers %d", text, showVerdict(v), end)
		}
	}
	for _, text := range []string{
		"fn f(x:&'a mut &'b int,y:&'b int):int {ret=1; *x=y;}{let a:int; let c:int; a=1; c=2; let r:&int; r=&a; let s:&int; s=&c; let m:&mut &int; m=&mut r; let z:int; z=f(m,s); out *r;}",
		"fn f(x:&'a mut int):[&'a mut int,int] {*x=*x+1; ret=[x,2];}{let a:int; a=1; let r:&mut int; r=&mut a; let p:[&mut int,int]; p=f(r); *p.0=p.1; out a;}",
		"fn f(x:&'a [int,int],y:int):&'a int {if y {y=y+9999; ret=f(x,y);} else {ret=&(*x).1;}}{let p:[int,int]; p=[1,2]; let r:&[int,int]; r=&p; let s:&int; s=f(r,3); out *s;}",
	} {
		wantAccepted(t, "P20", text)
		safe(t, text, &dice{6})
		m, end := run(t, text, 0, 0)
		if end != api.Done {
			t.Errorf("P21: %q: %d at %d", text, end, m.Pc())
		}
		wantOuts(t, text, m, 2)
	}
}
