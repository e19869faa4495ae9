package promises

import (
	"math"
	"strings"
	"testing"

	"borrowing/api"
	"borrowing/borrowing"
	"borrowing/machine"
)

const manySteps = 5000

// start: the machine of a text that must have one.
func start(t *testing.T, text string) *machine.Machine {
	t.Helper()
	m, v := machine.New(text)
	if m == nil || v != (api.Verdict{Rule: api.Accept, Point: -1, Loan: -1}) {
		t.Fatalf("P11: New(%q): a machine: %v; %s, want one and Accept", text, m != nil, showVerdict(v))
	}
	return m
}

// run: a machine behind some steps, or behind all (steps 0), each with this input, and what the last one answered.
func run(t *testing.T, text string, steps, in int) (*machine.Machine, int) {
	t.Helper()
	m, d := start(t, text), api.Ran
	if steps == 0 {
		steps = manySteps
	}
	for n := 0; n < steps && d == api.Ran; n++ {
		d = m.Step(in)
	}
	return m, d
}

// wantShow: the state is this one; | stands for a line's end.
func wantShow(t *testing.T, text string, m *machine.Machine, want string) {
	t.Helper()
	if got := strings.ReplaceAll(m.Show(), "\n", "|"); got != want {
		t.Errorf("P15: %q: Show is\n%s, want\n%s", text, got, want)
	}
}

func wantOuts(t *testing.T, text string, m *machine.Machine, want ...int) {
	t.Helper()
	got := m.Outs()
	same := len(got) == len(want)
	for i := 0; same && i < len(got); i++ {
		same = got[i] == want[i]
	}
	if !same {
		t.Errorf("P15: %q: put out %v, want %v", text, got, want)
	}
}

// loansOf: the loans as Show writes them, less their numbers.
func loansOf(m *machine.Machine) string {
	var list []string
	for _, line := range strings.Split(m.Show(), "\n") {
		if strings.HasPrefix(line, "/") {
			list = append(list, line[strings.IndexByte(line, ' ')+1:])
		}
	}
	return strings.Join(list, "|")
}

func TestP11NoGraph(t *testing.T) {
	for _, text := range []string{
		"", "}", "{", "{let x:int; x=1; out x; $}", strings.Repeat(" ", 511) + "{}", strings.Repeat("x", 100000),
		"{x=1;}", "{let x:int; let x:int;}", "{let x:[int,[int,[int,[int,[int,[int,int]]]]]];}", "{let x:int; x.0=1;}", "{let x:int; *x=1;}",
		"{let x:int; let r:&int; r=&x; *r=1;}", "{let b:box box int; let c:box int; c=*b;}", "{let x:[int,int]; x=1;}", "{let x:int; x=f();}",
		"fn f(ret:int):int {}{}",
	} {
		_, _, _, want := borrowing.Graph(text)
		m, v := machine.New(text)
		if m != nil || v != want || v.Rule == api.Accept {
			t.Errorf("P11: New(%.60q): a machine: %v; %s, want none and %s", text, m != nil, showVerdict(v), showVerdict(want))
		}
	}
	if _, v := machine.New("{\nout x;}"); v != (api.Verdict{Rule: api.RName, Line: 2, Col: 5, Point: -1, Loan: -1}) {
		t.Errorf("P11: the verdict is %s", showVerdict(v))
	}
}

func TestP11StepByStep(t *testing.T) {
	const text = "fn f(x:int):int {ret=x+1;}{let a:int; if ? {a=f(2);} else {a=9;} while ? {drop a; a=?;} out a;}"
	for _, c := range []struct{ in, pcs []int }{
		// f: 0 let, 1 assign, 2 dead, 3 end; the program: 4 let, 5 if, 6 call, 7 assign, 8 while, 9 drop, 10 assign, 11 out, 12 dead, 13 end.
		{[]int{0, 1, 0, 0, 0, 0, 0, 0, 0, 0, 0}, []int{4, 5, 6, 0, 1, 2, 3, 8, 11, 12, 13}},
		{[]int{0, 0, 0, 1, 0, 1, 1, 0, 1, 0, 0, 0, 0}, []int{4, 5, 7, 8, 9, 10, 8, 9, 10, 8, 11, 12, 13}},
	} {
		m := start(t, text)
		for i, in := range c.in {
			if m.Pc() != c.pcs[i] {
				t.Fatalf("P15: behind %d steps Pc is %d, want %d", i, m.Pc(), c.pcs[i])
			}
			want := api.Ran
			if i == len(c.in)-1 {
				want = api.Done
			}
			if d := m.Step(in); d != want {
				t.Fatalf("P11: step %d answers %d, want %d", i, d, want)
			}
		}
		if m.Pc() != 13 {
			t.Errorf("P15: at the end Pc is %d, want 13", m.Pc())
		}
	}
}

func TestP11Inputs(t *testing.T) {
	for _, c := range []struct{ in, first, second int }{
		{0, 0, 0}, {1, 1, 0}, {2, 0, 1}, {3, 1, 1}, {4, 0, 0}, {5, 1, 0}, {6, 0, 1}, {7, 1, 1}, {1 << 40, 0, 0}, {1<<40 + 2, 0, 1},
		{-1, 1, 1}, {-2, 0, 1}, {-3, 1, 0}, {-4, 0, 0}, {-5, 1, 1}, {-1 << 40, 0, 0},
		{math.MaxInt, 1, 1}, {math.MaxInt - 1, 0, 1}, {math.MaxInt - 2, 1, 0}, {math.MinInt, 0, 0}, {math.MinInt + 1, 1, 0}, {math.MinInt + 2, 0, 1},
	} {
		for _, k := range []struct {
			text string
			want int
		}{
			{"{let p:[int,int]; p=[?,?]; out p.0;}", c.first},
			{"{let p:[int,int]; p=[?,?]; out p.1;}", c.second},
			{"{let p:[int,int]; p=[7,?]; out p.1;}", c.second},
			{"{let p:[int,int]; p=[?,7]; out p.0;}", c.first},
			{"{let a:int; a=?; out a;}", c.first},
			{"{let a:int; a=?+?; out a;}", c.first + c.second},
			{"{let a:int; a=5+?; out a;}", 5 + c.second},
			{"{let b:box int; b=box ?; out *b;}", c.first},
			{"fn f(x:int,y:int):int {ret=x;}{let a:int; a=f(?,?); out a;}", c.first},
			{"fn f(x:int,y:int):int {ret=y;}{let a:int; a=f(?,?); out a;}", c.second},
			{"{let a:int; a=0; if ? {a=1;} out a;}", c.first},
		} {
			m, d := run(t, k.text, 0, c.in)
			if d != api.Done {
				t.Errorf("P11: %q with %d: %d", k.text, c.in, d)
			}
			wantOuts(t, k.text, m, k.want)
		}
	}
}

func TestP11Stands(t *testing.T) {
	for _, c := range []struct {
		text string
		end  int
	}{
		{"{}", api.Done},
		{"{let a:int; a=1; out a;}", api.Done},
		{"{let a:int; a=1; while 1 {out a;}}", api.Full},
		{"{while 1 {let a:int;}}", api.Full},
		{"{let a:int; out a;}", api.FNever},
		{"{let b:box int; b=box 1; let c:box int; c=b; c=b;}", api.FMoved},
		{"{let a:int; a=1; drop a; drop a;}", api.FDropped},
		{"{let r:&int; {let a:int; a=1; r=&a;} out *r;}", api.FDangling},
		{"{let a:int; a=1; let r:&int; r=&a; a=2; out *r;}", api.FConflict},
		{"fn f():int {}{let a:int; a=f();}", api.FNever},
	} {
		m, d := run(t, c.text, 0, 0)
		if d != c.end {
			t.Errorf("P11: %q: %d, want %d", c.text, d, c.end)
		}
		pc, outs, show := m.Pc(), len(m.Outs()), m.Show()
		for _, in := range []int{0, 1, 2, 3, -1, math.MaxInt, math.MinInt, 0, 0, 0} {
			if d := m.Step(in); d != c.end || m.Pc() != pc || len(m.Outs()) != outs || m.Show() != show {
				t.Errorf("P11: %q: behind the end: %d at %d, %q, want %d at %d, %q", c.text, d, m.Pc(), m.Show(), c.end, pc, show)
			}
		}
	}
}

// Programs that the checker refuses have machines, too, and run as far as they can.
func TestP11Refused(t *testing.T) {
	const text = "{let b:box int; if ? {out *b;} let a:int; let r:&mut int; a=1; r=&mut a; out a; if ? {*r=2;}}"
	if m, d := run(t, text, 0, 0); d != api.Done {
		t.Errorf("P11: %d at %d", d, m.Pc())
	}
	if m, d := run(t, text, 0, 1); d != api.FNever {
		t.Errorf("P11: %d at %d", d, m.Pc())
	}
}

func TestP15States(t *testing.T) {
	const calls = "fn f(x:box int,y:int):int {let k:int; k=g(y); ret=k+*x;} fn g(y:int):int {let z:int; z=y; ret=z;}{let b:box int; b=box 4; let a:int; a=f(b,3); out a;}"
	const refs = "{let p:[int,[int,int]]; p.0=1; p.1=[2,3]; let r:&[int,int]; r=&p.1; let s:&int; s=&(*r).1; let m:&mut int; m=&mut p.0; let w:& &mut int; w=&m; out p.0;}"
	const cells = "{let a:int; let b:box int; let k:[box int,int]; let p:[int,[box int,int]]; a=7; b=box a; k=[b,9]; p=[a,k]; let c:box int; c=p.1.0; drop p.0; out p.0;}"
	for _, c := range []struct {
		text  string
		steps int
		want  string
	}{
		{"{}", 0, "2@0|(0"},
		{cells, 4, "1@4|#0 -|#1 -|#2 - -|#3 - - -|(0 a=#0 b=#1 k=#2 p=#3"},
		{cells, 6, "1@6|#0 7|#1 #4|#2 - -|#3 - - -|#4 7|(0 a=#0 b=#1 k=#2 p=#3"},
		{cells, 8, "1@8|#0 7|#1 <|#2 < <|#3 7 #4 9|#4 7|(0 a=#0 b=#1 k=#2 p=#3"},
		{cells, 0, "6@11|#0 7|#1 <|#2 < <|#3 x < 9|#4 7|#5 #4|(0 a=#0 b=#1 k=#2 p=#3 c=#5"},
		{refs, 11, "1@11|#0 1 2 3|#1 &0.1+2/0|#2 &0.2+1/1|#3 &0.0+1/2|#4 &3.0+1/3|(0 p=#0 r=#1 s=#2 m=#3 w=#4|/0 0.1+2 0|/1 0.2+1 1|/2 0.0+1 0 mut|/3 3.0+1 0"},
		{refs, 12, "1@12|#0 1 2 3|#1 &0.1+2/0|#2 &0.2+1/1|#3 &0.0+1/2|#4 &3.0+1/3|(0 p=#0 r=#1 s=#2 m=#3 w=#4|/0 0.1+2 0|/1 0.2+1 1|/2 0.0+1 0 mut cut|/3 3.0+1 0"},
		{refs, 0, "2@17|#0 gone|#1 gone|#2 gone|#3 gone|#4 gone|(0|/0 0.1+2 0|/1 0.2+1 1|/2 0.0+1 0 mut cut|/3 3.0+1 0"},
		{calls, 10, "1@11|#0 <|#1 4|#2 -|#3 #1|#4 3|#5 -|#6 -|#7 3|#8 -|#9 3|(0 b=#0 a=#2|(19 x=#3 y=#4 ret=#5 k=#6|(3 y=#7 ret=#8 z=#9"},
		{calls, 14, "1@3|#0 <|#1 4|#2 -|#3 #1|#4 3|#5 -|#6 3|#7 gone|#8 gone|#9 gone|(0 b=#0 a=#2|(19 x=#3 y=#4 ret=#5 k=#6"},
		{calls, 19, "1@19|#0 <|#1 gone|#2 7|#3 gone|#4 gone|#5 gone|#6 gone|#7 gone|#8 gone|#9 gone|(0 b=#0 a=#2"},
		{calls, 0, "2@22|#0 gone|#1 gone|#2 gone|#3 gone|#4 gone|#5 gone|#6 gone|#7 gone|#8 gone|#9 gone|(0"},
		// A variable has its object from its let to its end, and in a loop a new one each time.
		{"{let a:int; {let b:int;} let c:int; out c;}", 0, "4@4|#0 -|#1 gone|#2 -|(0 a=#0 c=#2"},
		{"{while 1 {let a:int; a=5;}}", 7, "1@3|#0 gone|#1 5|(0 a=#1"},
	} {
		m, _ := run(t, c.text, c.steps, 0)
		wantShow(t, c.text, m, c.want)
	}
}

func TestP15ShowAheadOfTheFirst(t *testing.T) {
	for text, want := range map[string]string{"{}": "1@0|(0", "fn f(a:int):int {ret=a;}{let b:int;}": "1@4|(0"} {
		m := start(t, text)
		wantShow(t, text, m, want)
		wantOuts(t, text, m)
	}
}

func TestP15Examples(t *testing.T) {
	const text = "{let b:box int; b=box 1; let c:box int; c=b; out *b;}"
	m := start(t, text)
	for _, want := range []int{api.Ran, api.Ran, api.Ran, api.Ran, api.FMoved} {
		if d := m.Step(0); d != want {
			t.Errorf("P11: %d, want %d", d, want)
		}
	}
	wantShow(t, text, m, "5@4|#0 <|#1 1|#2 #1|(0 b=#0 c=#2")
}

func TestP13Sums(t *testing.T) {
	const text = "{let a:int; a=9999+9999; out a; a=a+2; out a; a=a+1; out a; a=a+0; out a; let b:int; b=5000; a=b+b; out a; a=b+4999; out a; a=007+0; out a;}"
	m, d := run(t, text, 0, 0)
	if d != api.Done {
		t.Errorf("P13: %d at %d", d, m.Pc())
	}
	wantOuts(t, text, m, 9998, 0, 1, 1, 0, 9999, 7)
}

func TestP13Tests(t *testing.T) {
	const text = "{let a:int; a=2; if a {out a;} if 0 {out a;} if 9 {out a;} else {a=7;} while a {out a; a=a+9999;} if a {} else {out a;}}"
	m, d := run(t, text, 0, 0)
	if d != api.Done {
		t.Errorf("P13: %d at %d", d, m.Pc())
	}
	wantOuts(t, text, m, 2, 2, 2, 1, 0)
}

func TestP2MachinesAreApart(t *testing.T) {
	const text = "fn f(x:&'a mut int):&'a mut int {*x=*x+1; ret=x;}{let a:int; a=?; let r:&mut int; let s:&mut int; while 1 {r=&mut a; s=f(r); if ? {let b:box int; b=box *s; out *b;} out a;}}"
	var alone [2][]string
	for in := range alone {
		m := start(t, text)
		for n := 0; n < 300; n++ {
			m.Step(in)
			alone[in] = append(alone[in], m.Show())
		}
	}
	d := &dice{7}
	one, two := start(t, text), start(t, text)
	n := [2]int{}
	for n[0] < 300 && n[1] < 300 {
		in, m := 0, one
		if d.below(2) == 1 {
			in, m = 1, two
		}
		m.Step(in)
		if m.Show() != alone[in][n[in]] {
			t.Fatalf("P2: step %d beside another machine: %q, alone %q", n[in], m.Show(), alone[in][n[in]])
		}
		n[in]++
		if n[in]%50 == 0 {
			machine.New(text)
		}
	}
}

func TestP2OutsAreFresh(t *testing.T) {
	const text = "{let a:int; a=1; while 1 {out a; a=a+1;}}"
	m := start(t, text)
	if m.Outs() != nil {
		t.Errorf("P2: nothing was put out, and the list is %v, not nil", m.Outs())
	}
	for n := 0; n < 60; n++ {
		list, other := m.Outs(), m.Outs()
		if len(list) != cap(list) {
			t.Errorf("P2: %d numbers, room for %d", len(list), cap(list))
		}
		for i := range list {
			if list[i] != i+1 {
				t.Fatalf("P15: put out %v", list)
			}
			list[i] = -5
		}
		for i := range other {
			if other[i] != i+1 {
				t.Fatalf("P2: a list of the caller's was written into, and another one is %v", other)
			}
		}
		m.Step(0)
	}
	wantOuts(t, text, m, 1, 2, 3, 4, 5, 6, 7, 8, 9, 10, 11, 12, 13, 14, 15, 16)
}

func TestP2ReadingChangesNothing(t *testing.T) {
	const text = "{let a:int; a=1; let r:&mut int; r=&mut a; out a; out *r;}"
	m := start(t, text)
	for d := api.Ran; d == api.Ran; d = m.Step(0) {
		show := m.Show()
		m.Outs()
		m.Pc()
		if m.Show() != show {
			t.Errorf("P2: Show is %q, then %q", show, m.Show())
		}
	}
}

// What New answers for a text without a graph, and a machine that New did not make, can be asked, too.
func TestP1NoMachine(t *testing.T) {
	none, _ := machine.New("}")
	for _, m := range []*machine.Machine{none, {}} {
		m.Step(3)
		m.Pc()
		m.Show()
		if m.Outs() != nil {
			t.Errorf("P2: a list of nothing is %v", m.Outs())
		}
	}
}
