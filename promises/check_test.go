package promises

import (
	"strings"
	"testing"

	"borrowing/api"
	"borrowing/borrowing"
	"borrowing/machine"
)

var accepted = api.Verdict{Rule: api.Accept, Point: -1, Loan: -1}

// told: what the marks of a text tell: the text without them, and a verdict. @@ stands ahead of the statement at which the rule is broken; ahead of a } @x@ is the Dead of x, and @end@ the End; % stands ahead of the statement that borrows.
func told(t *testing.T, rule int, text string) (string, api.Verdict) {
	t.Helper()
	plain, name, at, loan := "", "", -1, -1
	for i := 0; i < len(text); i++ {
		switch text[i] {
		case '@':
			n := strings.IndexByte(text[i+1:], '@')
			if n < 0 || at >= 0 {
				t.Fatalf("%q: one mark of two @ is wanted", text)
			}
			name, at = text[i+1:i+1+n], len(plain)
			i += n + 1
		case '%':
			loan = len(plain)
		default:
			plain += text[i : i+1]
		}
	}
	want := accepted
	want.Rule = rule
	points, locals, _ := graph(t, plain)
	if at >= 0 {
		want.Point = pointAt(t, plain, points, locals, at, name)
		want.Line, want.Col = points[want.Point].Line, points[want.Point].Col
	}
	if loan >= 0 {
		want.Loan = pointAt(t, plain, points, locals, loan, "")
	}
	return plain, want
}

func pointAt(t *testing.T, text string, points []api.Point, locals []api.Local, at int, name string) int {
	t.Helper()
	line, col := strings.Count(text[:at], "\n")+1, at-strings.LastIndexByte(text[:at], '\n')
	for i, p := range points {
		if p.Line != line || p.Col != col {
			continue
		}
		if name == "" || name == "end" && p.Kind == api.End || p.Kind == api.Dead && locals[p.DVar].Name == name {
			return i
		}
	}
	t.Fatalf("%q: no point at %d:%d %s", text, line, col, name)
	return -1
}

// wantRefused: the checker says of each text what its marks tell.
func wantRefused(t *testing.T, promise string, rule int, texts ...string) {
	t.Helper()
	for _, text := range texts {
		plain, want := told(t, rule, text)
		if want.Point < 0 || (want.Loan >= 0) != (rule == api.RBorrowed) {
			t.Fatalf("%q: marks for %s are wanted", text, ruleNames[rule])
		}
		if got := borrowing.Check(plain); got != want {
			t.Errorf("%s: Check(%q): %s, want %s", promise, text, showVerdict(got), showVerdict(want))
		}
	}
}

func wantAccepted(t *testing.T, promise string, texts ...string) {
	t.Helper()
	for _, text := range texts {
		if got := borrowing.Check(text); got != accepted {
			t.Errorf("%s: Check(%q): %s, want Accept", promise, text, showVerdict(got))
		}
	}
}

// TestP21Examples: the document's second table.
func TestP21Examples(t *testing.T) {
	for _, c := range []struct {
		text              string
		rule, point, loan int
	}{
		{"{let p:[int,int]; p=[?,?]; out p.0; out p.1; p.0=5; let q:[int,int]; q=p; out q.0;}", api.Accept, -1, -1},
		{"{let a:int; let r:&mut int; let s:&mut int; a=1; r=&mut a; s=&mut *r; *s=5; *r=6; out a; *s=7;}", api.RBorrowed, 7, 5},
		{"{let b:box int; b=box 1; drop b; out *b;}", api.RUninit, 3, -1},
		{"fn f(n:int):int {let m:int; if n {m=n+9999; m=f(m); ret=m+2;} else {ret=5;}}{let a:int; a=3; a=f(a); out a; a=8; a=f(a);}", api.Accept, -1, -1},
		{"fn f():&'a int {let a:int; a=1; ret=&a;}{let r:&int; r=f(); out *r;}", api.RBorrowed, 4, 3},
		{"{let a:int; out a;}", api.RUninit, 1, -1},
		{"{let a:int; while ? {a=1;} out a;}", api.RUninit, 3, -1},
		{"{let p:[box int,int]; let b:box int; b=box 1; p=[b,2]; drop p.0; out p.1; b=box 3; p.0=b; let q:[box int,int]; q=p; out q.1; out p.1;}", api.RUninit, 11, -1},
		{"{let b:box int; b=box 1; let p:[box int,box int]; p=[b,b];}", api.RUninit, 3, -1},
		{"{let a:int; a=1; let r:&int; r=&a; a=2;}", api.Accept, -1, -1},
		{"{let a:int; a=1; let r:&int; r=&a; a=2; out *r;}", api.RBorrowed, 4, 3},
		{"{let a:int; a=1; let r:&mut int; r=&mut a; out a; *r=2;}", api.RBorrowed, 4, 3},
		{"{let p:[int,int]; p=[1,2]; let r:&mut int; r=&mut p.0; let q:[int,int]; q=p; *r=1;}", api.RBorrowed, 5, 3},
		{"{let b:box int; b=box 1; let r:&mut int; r=&mut *b; *b=2; *r=3;}", api.RBorrowed, 4, 3},
		{"{let r:&int; {let a:int; a=1; r=&a;} out *r;}", api.RBorrowed, 4, 3},
		{"{let a:int; let b:int; a=1; b=2; let r:&mut int; let s:&mut int; r=&mut a; s=&mut *r; r=&mut b; *r=3; *s=1;}", api.Accept, -1, -1},
		{"{let a:int; a=1; let r:&int; r=&a; while ? {out *r; a=2;}}", api.RBorrowed, 6, 3},
		{"{let a:int; a=1; let r:&int; r=&a; let b:box &int; b=box r; a=2; out **b;}", api.RBorrowed, 6, 3},
		{"{let a:int; a=1; let m:&mut int; m=&mut a; let s:& &mut int; s=&m; out **s; *m=4; out **s;}", api.RBorrowed, 7, 5},
		{"fn f(x:&'a int):&'a int {ret=x;}{let a:int; a=1; let r:&int; let s:&int; r=&a; s=f(r); a=2; out *s;}", api.RBorrowed, 10, 8},
		{"fn f(x:&'a int, y:&'b int):&'a int {ret=y;}{}", api.ROutlives, 1, -1},
		{"fn f(x:&int):&int {ret=x;}{}", api.ROutlives, 1, -1},
		{"fn f(x:&'a mut &'b int, y:&'c int):int {*x=y; ret=0;}{}", api.ROutlives, 1, -1},
	} {
		want := api.Verdict{Rule: c.rule, Point: c.point, Loan: c.loan}
		if c.point >= 0 {
			points, _, _ := graph(t, c.text)
			want.Line, want.Col = points[c.point].Line, points[c.point].Col
		}
		if got := borrowing.Check(c.text); got != want {
			t.Errorf("P21: Check(%q): %s, want %s", c.text, showVerdict(got), showVerdict(want))
		}
	}
}

// TestP21Graph: a rule of the text, its names and types comes first, whatever else is wrong ahead of it. (That Check says what Graph says, wantAt tests of every such text.)
func TestP21Graph(t *testing.T) {
	wantAt(t, "{let a:int; out a;"+strings.Repeat(" ", 500)+"}", api.RLong, 0, 0)
	wantRule(t, api.RParse, "{let a:int; out a; drop@}")
	wantRule(t, api.RName, "{let a:int; out a;\n out @b;}")
	wantRule(t, api.RType, "{let a:int; a=1; let r:&int; r=&a; a=2; out *r; r=@a;}")
	wantRule(t, api.RTwice, "fn f(x:&int):&int {ret=x;} fn @f():int {ret=1;}{}")
	wantRule(t, api.RName, "fn f():int {} fn g(x:&int):&int {ret=x;}{out @a;}")
}

// TestP21Order: moves are judged ahead of lifetimes, these ahead of borrows, wherever they stand.
func TestP21Order(t *testing.T) {
	const borrowed = "let a:int; a=1; let r:&int; r=&a; a=2; out *r;"
	const marked = "let a:int; a=1; let r:&int; %r=&a; @@a=2; out *r;"
	wantRefused(t, "P21", api.RUninit,
		"fn f(x:&int):&int {"+borrowed+"ret=x;}{let k:int; @@out k;}",
		"fn f(x:&int):&int {ret=x;}{"+borrowed+"let k:int; @@out k;}",
		"fn f(x:&int):&int {ret=x; let k:int; @@k=k;}{"+borrowed+"}",
		"{"+borrowed+"let b:box int; if ? {@@drop b;}}",
	)
	wantRefused(t, "P21", api.ROutlives,
		"fn g():int {"+borrowed+"ret=1;} fn f(x:&int):&int {@@ret=x;}{}",
		"fn f(x:&int):&int {"+borrowed+"@@ret=x;}{"+borrowed+"}",
		"fn f(x:&int):&int {@@ret=x;}{"+borrowed+"}",
	)
	wantRefused(t, "P21", api.RBorrowed,
		"fn f(x:&'a int):&'a int {ret=x;}{"+marked+"}",
		"fn f(x:&'a int):&'a int {"+marked+"ret=x;}{"+borrowed+"}",
		"{"+marked+"}",
	)
	wantAccepted(t, "P21", "{}", "fn f(x:&'a int):&'a int {ret=x;}{}")
}

// TestP21Spots: Line and Col are those of the statement's first word, of a Dead and an End those of the }.
func TestP21Spots(t *testing.T) {
	for _, c := range []struct {
		text string
		want api.Verdict
	}{
		{"{\n\n let a:int;\n\t out\n a;}", api.Verdict{Rule: api.RUninit, Line: 4, Col: 3, Point: 1, Loan: -1}},
		{"{let a:int;\n if\n a {}}", api.Verdict{Rule: api.RUninit, Line: 2, Col: 2, Point: 1, Loan: -1}},
		{"fn f():int {\n# nothing }\n  }\n{}", api.Verdict{Rule: api.RUninit, Line: 3, Col: 3, Point: 1, Loan: -1}},
		{"fn f(x:&int):&int {\n  ret =\n x;}{}", api.Verdict{Rule: api.ROutlives, Line: 2, Col: 3, Point: 1, Loan: -1}},
		{"{let r:&int;\n{let a:int; a=1;\nr=&a;\n\n }\nout *r;}", api.Verdict{Rule: api.RBorrowed, Line: 5, Col: 2, Point: 4, Loan: 3}},
		{"{let a:int; a=1; let r:&int; r=&a;\n *\nr.0=1;}", api.Verdict{Rule: api.RField, Line: 3, Col: 2, Point: -1, Loan: -1}},
	} {
		if got := borrowing.Check(c.text); got != c.want {
			t.Errorf("P21: Check(%q): %s, want %s", c.text, showVerdict(got), showVerdict(c.want))
		}
	}
}

// TestP2CheckAlone: what Check says hangs on the text alone: whatever was asked ahead of it, and whatever machines do.
func TestP2CheckAlone(t *testing.T) {
	texts := append(tangles(t, 71, 60), "", "}", "{x=1;}", "{let a:int; out a;}", strings.Repeat("{}", 300))
	var first []api.Verdict
	for _, text := range texts {
		first = append(first, borrowing.Check(text))
	}
	var running []*machine.Machine
	for i := range texts {
		text := texts[len(texts)-1-i]
		p, l, f, _ := borrowing.Graph(text)
		for k := range p {
			p[k] = api.Point{}
		}
		for k := range l {
			l[k] = api.Local{}
		}
		for k := range f {
			f[k] = api.Func{}
		}
		if m, _ := machine.New(text); m != nil {
			running = append(running, m)
		}
		for _, m := range running {
			m.Step(i)
		}
		if got := borrowing.Check(text); got != first[len(texts)-1-i] {
			t.Errorf("P2: Check(%q): %s at one time, %s at another", text, showVerdict(first[len(texts)-1-i]), showVerdict(got))
		}
	}
}

// TestP1CheckEnds: texts of full length that give the checker much to do.
func TestP1CheckEnds(t *testing.T) {
	fill := func(head, unit, tail string) string {
		return head + strings.Repeat(unit, (api.MaxText-len(head)-len(tail))/len(unit)) + tail
	}
	deep := "{let a:int;a=1;let r:&int;r=&a;" + strings.Repeat("while *r{r=&a;", 30)
	wantAccepted(t, "P1",
		fill("{let a:int;a=1;let r:&int;", "r=&a;", "}"),
		fill("{let a:int;a=1;let r:&int;r=&a;", "while 1{r=&a;}", "}"),
		fill("{let a:int;a=1;let r:&int;r=&a;", "if *r{r=&a;}", "a=1;}"),
		fill("fn f(x:"+strings.Repeat("&'a ", 26)+"int):int{ret=1;", "x=x;", "}{}"),
		fill("fn f(x:"+strings.Repeat("&'a mut ", 26)+"int):int{ret=1;", "x=&mut *x;", "}{}"),
		fill("{let a:int;", "if ?{a=1;}", "}"),
		deep+strings.Repeat("}", 31),
		fill("{", "{}", "}"),
		fill("{", "while ?{}", "}"),
		"fn f(x:"+strings.Repeat("&'a ", 70)+"int):int{let y:&int;y=&"+strings.Repeat("*", 70)+"x;ret=*y;}{}",
	)
}
