package promises

import (
	"reflect"
	"slices"
	"strings"
	"testing"

	"borrowing/api"
	"borrowing/borrowing"
	"borrowing/machine"
)

// wantReason: what Why says of each text, which breaks this rule, is a reason by the words of P22.
func wantReason(t *testing.T, rule int, texts ...string) {
	t.Helper()
	for _, text := range texts {
		graph(t, text)
		j, v := judgement(text)
		if v.Rule != rule || borrowing.Check(text) != v {
			t.Errorf("P21: Check(%q): %s, want %s", text, showVerdict(borrowing.Check(text)), ruleNames[rule])
			continue
		}
		if r := why(text); j.flaw(v, r) != "" {
			t.Errorf("P22: Why(%q): %s: %s (%s)", text, r, j.flaw(v, r), showVerdict(v))
		}
	}
}

// oneReason: a text, and the reason that is wanted: the only one, or of several the shortest.
type oneReason struct{ text, want string }

func wantWhy(t *testing.T, rule int, list ...oneReason) {
	t.Helper()
	for _, c := range list {
		wantReason(t, rule, c.text)
		if got := why(c.text).String(); got != c.want {
			t.Errorf("P22: Why(%q): %s, want %s", c.text, got, c.want)
		}
	}
}

// TestP22Examples: the document's.
func TestP22Examples(t *testing.T) {
	wantWhy(t, api.RBorrowed, oneReason{"{let a:int; a=1; let r:&int; r=&a; let s:&int; s=r; let p:[&int,int]; p=[s,1]; a=2; out *p.0;}", "3 4 5 6 7 8 9; 7 5; 5 3"})
	wantWhy(t, api.ROutlives, oneReason{"fn f(x:&'a int, y:&'b int):&'a int {ret=y;}{}", "nil; 1; 1 0"})
}

// TestP22Nothing: texts that break another rule, or none.
func TestP22Nothing(t *testing.T) {
	for _, text := range []string{
		"", "}", "{}", "{let x int;}", "{x=1;}", "{let x:int; let x:int;}", "{let x:int; *x=1;}", "{let x:[int,int]; x=1+2;}", "{let x:int; x=f();}",
		"{let x:[int,int]; x.00=1;}", "{let x:int; let r:&int; r=&x; *r=1;}", "{let b:box box int; let c:box int; c=*b;}", "{let x:[int,[int,[int,[int,[int,[int,int]]]]]];}",
		"{let a:int; out a;" + strings.Repeat(" ", 500) + "}", // RLong comes ahead of RUninit
		"{let a:int; out a; out b;}",                          // so does RName
		"fn f(x:&int):&int {ret=x;}{x=1;}",
		"{let a:int; a=1; let r:&int; r=&a; a=2;}",
		"{let a:int; a=1; out a;}",
		"fn f(x:&'a int):&'a int {ret=x;}{let a:int; a=1; let r:&int; let s:&int; r=&a; s=f(r); out *s; a=2;}",
	} {
		path, chain, r := borrowing.Why(text)
		if path != nil || chain != nil || r != (api.Reason{}) {
			t.Errorf("P22: Why(%.60q): %v, %v, %+v, want nil, nil and zero", text, path, chain, r)
		}
	}
}

// TestP22Order: the reason is that of the rule that Check says, whatever else is broken.
func TestP22Order(t *testing.T) {
	const borrowed = "let a:int; a=1; let r:&int; r=&a; a=2; out *r;"
	wantReason(t, api.RUninit,
		"fn f(x:&int):&int {"+borrowed+"ret=x;}{let k:int; out k;}",
		"fn f(x:&int):&int {ret=x; let k:int; k=k;}{"+borrowed+"}",
	)
	wantReason(t, api.ROutlives,
		"fn g():int {"+borrowed+"ret=1;} fn f(x:&int):&int {ret=x;}{}",
		"fn f(x:&int):&int {"+borrowed+"ret=x;}{"+borrowed+"}",
	)
	wantReason(t, api.RBorrowed, "fn f(x:&'a int):&'a int {"+borrowed+"ret=x;}{"+borrowed+"}")
}

// TestP22Moves: what is taken away by a let, a move, a drop, and what needs it then.
func TestP22Moves(t *testing.T) {
	wantWhy(t, api.RUninit,
		oneReason{"{let a:int; out a;}", "0 1; nil; 1 0"},
		oneReason{"{let a:int; if a {}}", "0 1; nil; 1 0"},
		oneReason{"{let k:int; k=1; let a:int; k=k+a;}", "2 3; nil; 1 1"},
		oneReason{"{let a:int; let k:int; k=1; k=a+k;}", "0 1 2 3; nil; 3 0"},
		oneReason{"{let a:int; let r:&int; r=&a;}", "0 1 2; nil; 2 0"},
		oneReason{"{let b:box int; b=box 1; let c:box int; c=b; out *b;}", "3 4; nil; 1 0"},
		oneReason{"{let b:box int; b=box 1; drop b; let x:int; x=1; out *b;}", "2 3 4 5; nil; 3 0"},
		oneReason{"{let b:box int; b=box 1; drop b; drop b;}", "2 3; nil; 1 0"},
		oneReason{"{let b:box int; b=box 1; drop b; *b=2;}", "2 3; nil; 1 0"},
		oneReason{"{let m:&mut int; *m=2;}", "0 1; nil; 1 0"},
		oneReason{"{let b:box box int; let c:box int; c=box 1; b=box c; drop b; c=box 2; **b=3;}", "4 5 6; nil; 2 0"},
		oneReason{"fn f(x:box int):int {ret=*x;}{let b:box int; b=box 1; let n:int; n=f(b); out n; n=*b;}", "7 8 9; nil; 2 2"},
		oneReason{"{let b:box int; b=box 1; let c:box box int; c=box b; drop b;}", "3 4; nil; 1 0"},
		oneReason{"{let b:box int; b=box 1; b=b; let c:box int; c=b; b=b;}", "4 5; nil; 1 0"},
	)
}

// TestP22OwnOperands: a point whose own operands take away what it needs.
func TestP22OwnOperands(t *testing.T) {
	wantWhy(t, api.RUninit,
		oneReason{"{let b:box int; b=box 1; let p:[box int,box int]; p=[b,b];}", "3; nil; 0 0"},
		oneReason{"fn f(x:box int,y:box int):int {ret=*x;}{let k:int; let b:box int; b=box 1; k=f(b,b);}", "8; nil; 0 4"},
		oneReason{"fn f(x:box int):int {ret=*x;}{let b:box int; b=box 1; *b=f(b);}", "6; nil; 0 2"},
		oneReason{"fn f(n:int,x:box int):int {ret=n;}{let b:box int; b=box 1; *b=f(*b,b);}", "7; nil; 0 3"},
		oneReason{"fn f(x:box int,n:int):int {ret=n;}{let b:box int; b=box 1; *b=f(b,*b);}", "7; nil; 0 3"},
		oneReason{"{let q:[box int,int]; let b:box int; b=box 1; q=[b,2]; let p:[[box int,int],box int]; p=[q,q.0];}", "5; nil; 0 0"},
		oneReason{"{let q:[box int,int]; let b:box int; b=box 1; q=[b,2]; let p:[box int,[box int,int]]; p=[q.0,q];}", "5; nil; 0 0"},
		oneReason{"{let b:box int; b=box 1; let p:[box int,box int]; while ? {p=[b,b];}}", "4; nil; 0 0"},
	)
	// The first operand does not miss what the second takes away, but in the next round it does.
	wantAccepted(t, "P16", "{let b:box int; b=box 1; let p:[int,box int]; p=[*b,b];}")
	wantWhy(t, api.RUninit, oneReason{"{let b:box int; b=box 1; let p:[int,box int]; while ? {p=[*b,b];}}", "4 3 4; nil; 2 0"})
}

// TestP22Parts: of what was taken away a part is given back: the other is still lost.
func TestP22Parts(t *testing.T) {
	wantWhy(t, api.RUninit,
		oneReason{"{let q:[int,int]; q.1=2; out q.1; out q.0;}", "0 1 2 3; nil; 3 0"},
		oneReason{"{let q:[int,int]; q.0=2; out q.0; out q.1;}", "0 1 2 3; nil; 3 0"},
		oneReason{"{let q:[int,int]; q.1=2; let r:&[int,int]; r=&q;}", "0 1 2 3; nil; 3 0"},
		oneReason{"{let q:[int,[int,int]]; q.1.0=1; q.0=1; out q.1.0; q.0=q.1.1;}", "0 1 2 3 4; nil; 4 0"},
		oneReason{"{let q:[box int,int]; let b:box int; b=box 1; q=[b,2]; let r:[box int,int]; r=q; b=box 3; q.0=b; r=q;}", "5 6 7 8; nil; 3 0"},
		oneReason{"{let q:[box int,int]; let b:box int; b=box 1; q=[b,2]; drop q; b=box 3; q.0=b; *q.0=4; drop q;}", "4 5 6 7 8; nil; 4 0"},
		oneReason{"{let q:[box int,box int]; let b:box int; let c:box int; b=box 1; c=box 2; q=[b,c]; drop q.0; c=box 3; q.1=c; b=q.0;}", "6 7 8 9; nil; 3 0"},
		oneReason{"{let q:[box int,box int]; let b:box int; let c:box int; b=box 1; c=box 2; q=[b,c]; drop q.0; drop q.1; b=box 1; q.0=b; *q.0=5; *q.1=3;}", "7 8 9 10 11; nil; 4 0"},
	)
	// The nearer drop takes another part than the one that is missed.
	wantWhy(t, api.RUninit,
		oneReason{"{let q:[box int,box int]; let b:box int; let c:box int; b=box 1; c=box 2; q=[b,c]; drop q.0; drop q.1; *q.0=5;}", "6 7 8; nil; 2 0"},
	)
}

// TestP22MovesAround: loops, branches, and functions that nothing calls.
func TestP22MovesAround(t *testing.T) {
	wantWhy(t, api.RUninit,
		oneReason{"{let b:box int; b=box 1; while ? {drop b;}}", "3 2 3; nil; 2 0"},
		oneReason{"{let b:box int; b=box 1; let c:box int; while ? {c=b;}}", "4 3 4; nil; 2 0"},
		oneReason{"{let a:int; if ? {a=1;} out a;}", "0 1 3; nil; 2 0"},
		oneReason{"{let a:int; if ? {a=1;} else {} out a;}", "0 1 3; nil; 2 0"},
		oneReason{"{let a:int; if ? {} else {a=1;} out a;}", "0 1 3; nil; 2 0"},
		oneReason{"{let a:int; while ? {a=1;} out a;}", "0 1 3; nil; 2 0"},
		oneReason{"{let b:box int; b=box 1; if ? {drop b;} else {out *b;} out *b;}", "3 5; nil; 1 0"},
		oneReason{"{let b:box int; while ? {b=box 1; drop b;} b=box 2; while ? {out *b; drop b;}}", "7 5 6; nil; 2 0"},
		oneReason{"{while ? {let b:box int; if ? {b=box 1;} out *b;}}", "1 2 4; nil; 2 0"},
		oneReason{"fn f():int {}{}", "0 1; nil; 1 0"},
		oneReason{"fn f():int {ret=1;} fn g(x:box int):int {ret=*x; drop x; ret=*x;}{}", "5 6; nil; 1 1"},
		oneReason{"fn f():int {while ? {ret=1;}}{}", "0 1 3; nil; 2 0"},
	)
	wantReason(t, api.RUninit,
		"{let b:box int; b=box 1; if ? {drop b;} else {if ? {drop b;}} out *b;}",
		"{let b:box int; if ? {b=box 1; drop b;} while ? {if ? {b=box 2;} else {}} drop b;}",
		"{let b:box int; b=box 1; let c:box int; while ? {if ? {c=b;} else {while ? {drop b; b=box 3;}}} out *b;}",
		"{let p:[box int,box int]; let b:box int; let c:box int; while ? {b=box 1; c=box 2; if ? {p=[b,c];} else {p.0=b;}} drop p;}",
	)
}

// TestP22Own: a loan that is still with the variable to which it was given.
func TestP22Own(t *testing.T) {
	wantWhy(t, api.RBorrowed,
		oneReason{"{let a:int; a=1; let r:&int; r=&a; a=2; out *r;}", "3 4 5; nil; 1 1"},
		oneReason{"{let a:int; a=1; let r:&mut int; r=&mut a; out a; *r=2;}", "3 4 5; nil; 1 1"},
		oneReason{"{let r:&int; {let a:int; a=1; r=&a;} out *r;}", "3 4 5; nil; 1 0"},
		oneReason{"{let b:box int; b=box 1; let r:&int; r=&*b; b=box 2; out *r;}", "3 4 5; nil; 1 1"},
		oneReason{"{let b:box int; b=box 1; let r:&int; r=&*b; drop b; out *r;}", "3 4 5; nil; 1 1"},
		oneReason{"{let p:[int,int]; p=[1,2]; let q:[int,&int]; q.1=&p.0; q.0=1; p.0=3; out *q.1;}", "3 4 5 6; nil; 2 1"},
		// Check's point itself uses Var: as an operand, behind a *, and even if it gives Var a new value.
		oneReason{"{let a:int; a=1; let r:&mut int; r=&mut a; *r=a;}", "3 4; nil; 1 1"},
		oneReason{"{let a:int; a=1; let k:int; let r:&mut int; r=&mut a; k=a+*r;}", "4 5; nil; 1 2"},
		oneReason{"fn g(x:&'a mut int,y:int):&'a mut int {ret=x; *ret=y;}{let a:int; a=1; let r:&mut int; r=&mut a; r=g(r,a);}", "9 10; nil; 1 4"},
		// Var is used far behind it.
		oneReason{"{let a:int; a=1; let r:&int; r=&a; a=2; if ? {r=&a;} let k:int; k=3; while ? {k=4;} out k; out *r;}", "3 4 5 7 8 9 11 12; nil; 1 1"},
		oneReason{"{let a:int; a=1; let r:&int; r=&a; {let c:int; c=1; a=c; if ? {c=2;} else {out *r;}}}", "3 4 5 6 7 9; nil; 3 1"},
	)
}

// TestP22Loops: around a loop to Check's point, and on around it to a use.
func TestP22Loops(t *testing.T) {
	wantWhy(t, api.RBorrowed,
		oneReason{"{let a:int; a=1; let r:&int; r=&a; while ? {out *r; a=2;}}", "3 4 5 6 4 5; nil; 3 1"},
		oneReason{"{let a:int; a=1; let r:&int; r=&a; if ? {a=2; r=&a;} else {a=3;} out *r;}", "3 4 7 8; nil; 2 1"},
		// The loan's point is Check's.
		oneReason{"{let a:int; a=1; let c:int; c=2; let r:&mut int; let s:&mut int; s=&mut c; while ? {r=&mut a; *s=1; s=r;}}", "8 9 10 7 8 9; 10; 4 3"},
		// From Check's point the loop leads over the loan's again.
		oneReason{"{let a:int; a=1; let c:int; c=2; let r:&int; let s:&int; s=&c; while ? {a=2; r=&a; out *s; s=r;}}", "9 10 11 7 8 9 10; 11; 4 3"},
	)
	wantReason(t, api.RBorrowed,
		"{let a:int; a=1; let r:&mut int; r=&mut a; let s:&mut int; while ? {s=&mut a; s=r; r=s;}}",
		"{let a:int; a=1; let c:int; let r:&mut int; let s:&mut int; c=2; s=&mut c; while ? {*s=1; r=&mut a; c=*s; s=r;}}",
		"{let a:int; a=1; let c:int; c=1; let r:&int; r=&c; while ? {while ? {out *r; a=2;} if ? {r=&a;} else {r=&c;}}}",
	)
}

// TestP22Chains: a loan that comes to Var over other variables.
func TestP22Chains(t *testing.T) {
	wantWhy(t, api.RBorrowed,
		oneReason{"{let a:int; a=1; let r:&int; r=&a; let b:box &int; b=box r; a=2; out **b;}", "3 4 5 6 7; 5; 3 2"},
		oneReason{"{let a:int; a=1; let r:&int; r=&a; let s:&int; let u:&int; s=r; u=s; let b:box &int; b=box u; let p:[int,box &int]; p=[1,b]; a=2; out **p.1;}", "3 4 5 6 7 8 9 10 11 12 13; 11 9 7 6; 9 5"},
		oneReason{"{let a:int; a=1; let c:int; c=1; let r:&int; let s:&int; let p:[&int,&int]; r=&a; s=&c; p=[r,s]; c=2; out *p.0;}", "8 9 10 11; 9; 2 4"},
		// Below an m the inclusions lead back, too.
		oneReason{"{let a:int; a=1; let c:int; c=2; let m:&mut &int; let r:&int; r=&c; m=&mut r; *m=&a; a=2; out *r;}", "8 9 10; 7; 1 3"},
		oneReason{"{let a:int; a=1; let c:int; c=2; let r:&int; r=&c; let m:&mut &int; m=&mut r; let n:&mut &int; n=m; let q:&int; q=&a; *n=q; a=2; out *r;}", "11 12 13 14; 7 9 12; 2 2"},
		oneReason{"{let a:int; a=1; let c:int; c=1; let r:&int; r=&c; let m:&mut &int; m=&mut r; let b:box &mut &int; b=box m; **b=&a; a=2; out *r;}", "10 11 12; 7 9; 1 2"},
		// Over the references that a borrowed place lies behind.
		oneReason{"{let a:int; a=1; let r:&mut int; let s:&mut int; let u:&mut int; r=&mut a; s=&mut *r; u=&mut *s; a=3; *u=1;}", "5 6 7 8 9; 7 6; 3 3"},
		oneReason{"{let p:[int,int]; p=[1,2]; let r:&[int,int]; r=&p; let u:&int; u=&(*r).1; p.1=3; out *u;}", "3 4 5 6 7; 5; 3 2"},
		oneReason{"{let a:int; a=1; let r:&mut int; r=&mut a; let b:box &mut int; b=box r; let s:&mut int; s=&mut **b; a=2; *s=1;}", "3 4 5 6 7 8 9; 7 5; 5 3"},
		oneReason{"{let a:int; a=1; let r:&int; r=&a; let s:& &int; s=&r; let u:&int; u=*s; a=2; out *u;}", "3 4 5 6 7 8 9; 7 5; 5 3"},
		oneReason{"{let a:int; a=1; let m:&mut int; m=&mut a; let n:&mut &mut int; n=&mut m; let u:&mut int; u=&mut **n; *m=1; *u=2;}", "5 6 7 8 9; 7; 3 3"},
	)
}

// TestP22Calls: a loan that comes to Var by calls: into a parameter and out of the result or of another parameter, by one point each time.
func TestP22Calls(t *testing.T) {
	wantWhy(t, api.RBorrowed,
		oneReason{"fn f(x:&'a int):&'a int {ret=x;}{let a:int; a=1; let r:&int; let s:&int; r=&a; s=f(r); a=2; out *s;}", "8 9 10 11; 9 9; 2 4"},
		oneReason{"fn f(x:&'a int):&'a int {ret=x;}{let a:int; a=1; let r:&int; let s:&int; r=&a; s=f(r); r=f(s); a=2; out *r;}", "8 9 10 11 12; nil; 3 3"},
		oneReason{"fn f(x:&'a int,y:&'b int):&'a int {ret=x;}{let a:int; a=1; let c:int; c=1; let r:&int; let q:&int; let s:&int; r=&a; q=&c; s=f(q,r); c=2; out *s;}", "13 14 15 16; 14 14; 2 7"},
		oneReason{"fn f(x:&'a mut &'b int,y:&'b int):int {*x=y; ret=0;}{let a:int; a=1; let c:int; c=1; let r:&int; let q:&int; r=&a; q=&c; let m:&mut &int; m=&mut r; let z:int; z=f(m,q); c=2; out *r;}", "13 14 15 16 17 18 19; 15 17 17; 5 5"},
		oneReason{"fn f(x:&'a int,y:&'b mut &'a int):&'a int {*y=x; ret=*y;}{let a:int; a=1; let c:int; c=1; let r:&int; r=&c; let m:&mut &int; m=&mut r; let q:&int; q=&a; let s:&int; s=f(q,m); a=2; out *r;}", "15 16 17 18 19; 13 17 17; 3 5"},
	)
	wantReason(t, api.RBorrowed,
		"fn f(x:&'a int):&'a int {ret=f(x); let k:int; k=1; let l:&int; l=&k; ret=f(l);}{}",
		"fn f(x:&'a int,y:&'a int):&'a int {ret=x;}{let a:int; a=1; let r:&int; r=&a; let s:&int; s=f(r,r); let u:&int; u=f(s,r); a=2; out *u;}",
	)
}

// TestP22ToTheEnd: a parameter or result with lifetimes: on to its function's End.
func TestP22ToTheEnd(t *testing.T) {
	wantWhy(t, api.RBorrowed,
		oneReason{"fn f():&'a int {let a:int; a=1; ret=&a;}{}", "3 4 5; nil; 1 0"},
		oneReason{"fn f(x:int):&'a int {ret=&x;}{}", "1 2 3; nil; 1 1"},
		oneReason{"fn f(x:&'a mut &'b int):int {ret=1; let k:int; k=1; *x=&k;}{}", "4 5 6 7; nil; 1 0"},
		oneReason{"fn f():&'a int {let a:int; a=1; if ? {ret=&a;} else {ret=f();} a=2;}{}", "4 6 7 8; nil; 1 0"},
		oneReason{"fn f():&'a int {let a:int; a=1; let s:&int; s=&a; ret=s;}{}", "4 5 6 7 8; 5; 3 0"},
		// A wholly new value on the way does not help: its lifetimes are the caller's.
		oneReason{"fn f():&'a int {let a:int; a=1; ret=&a; a=2; ret=f();}{}", "3 4 5 6 7; nil; 1 0"},
		// A variable of a function without lifetimes has its use, as elsewhere.
		oneReason{"fn f():int {let a:int; a=1; let r:&int; r=&a; a=2; ret=*r;}{}", "4 5 6; nil; 1 2"},
		oneReason{"fn f(x:&'a mut int):int {let r:&mut int; r=&mut *x; let s:&mut int; s=&mut *x; *r=1; ret=1;}{}", "2 3 4 5; nil; 2 2"},
	)
	wantReason(t, api.RBorrowed,
		"fn f(x:&'a mut int):&'a mut int {ret=&mut *x; *x=2;}{}",
		"fn f(x:&'a int):&'a int {let c:int; c=1; let s:&int; s=&c; ret=s; ret=x;}{}",
		"fn f(x:[&'a int,int]):&'a int {ret=&x.1;}{}",
		"fn f(x:&'a mut &'b int,y:&'b int):int {let k:int; k=1; let s:&int; s=&k; *x=s; *x=y; ret=1;}{}",
		"fn f(x:&'a mut int,y:&'a mut int):&'a mut int {let k:int; ret=&mut *x; k=*x; ret=&mut *y;}{}",
		"fn f(x:&mut &'a int):&'a int {let s:&int; s=&**x; ret=s; let k:int; k=2; *x=&k; k=3;}{}",
		"fn f():&'a int {let a:int; a=1; ret=&a; while ? {a=2; ret=f();}}{}",
	)
}

// TestP22LoansOfResults: what is borrowed is ret, at whose End Check's point may be.
func TestP22LoansOfResults(t *testing.T) {
	wantWhy(t, api.RBorrowed,
		oneReason{"fn f():[&'a int,int] {ret.1=1; ret.0=&ret.1;}{}", "2 3; nil; 1 0"},
		oneReason{"fn f():[int,&'a int] {ret.0=1; let r:&int; r=&ret.0; ret.1=r; ret.0=2;}{}", "3 4 5 6 7; 4; 2 0"},
		oneReason{"fn f(x:&'a mut &'b int):int {ret=1; *x=&ret;}{}", "2 3 4; nil; 2 0"},
		oneReason{"fn f():int {ret=1; let r:&int; r=&ret; ret=2; out *r;}{}", "3 4 5; nil; 1 1"},
	)
}

// TestP22Lifetimes: the one lifetime comes to the other, by one point or several, by calls of other functions and of itself.
func TestP22Lifetimes(t *testing.T) {
	wantWhy(t, api.ROutlives,
		oneReason{"fn f(x:&int):&int {ret=x;}{}", "nil; 1; 0 1"},
		oneReason{"fn f(x:&'a int,y:&'b int):&'b int {let z:&int; z=x; ret=z;}{}", "nil; 3 2; 0 1"},
		oneReason{"fn f(x:&'a int,y:&'b int):&'b int {let z:&int; z=x; let w:&int; w=z; ret=w;}{}", "nil; 5 4 2; 0 1"},
		oneReason{"fn f(x:&'a mut &'b int, y:&'c int):int {*x=y; ret=0;}{}", "nil; 1; 2 1"},
		oneReason{"fn f(x:&'a mut &'b int,y:&'a mut &'c int):int {x=y; ret=1;}{}", "nil; 1; 1 2"},
		oneReason{"fn f(x:&'a mut &'b int,y:&'c mut &'d int):int {let m:&mut &int; if ? {m=&mut *x;} else {m=&mut *y;} ret=1;}{}", "nil; 4 3; 1 3"},
		oneReason{"fn f(x:&'a & 'b int):&'a int {ret=&**x;}{}", "nil; 1; 1 0"},
		oneReason{"fn f(x:&'a mut int):&'b mut int {let b:box &mut int; b=box x; let p:[int,box &mut int]; p=[1,b]; ret=&mut **p.1;}{}", "nil; 5 4 2; 0 1"},
		oneReason{"fn g(x:&'a int):&'a int {ret=x;} fn f(x:&'b int):&'c int {ret=g(x);}{}", "nil; 5 5; 0 1"},
		oneReason{"fn f(x:&'a int,y:&'b int):&'a int {ret=f(y,x);}{}", "nil; 1 1; 1 0"},
		oneReason{"fn f(x:&'a int,y:&'b int):&'a int {ret=x; let z:&int; z=f(y,x); ret=z;}{}", "nil; 4 3 3; 1 0"},
		oneReason{"fn f(x:&'a mut &'b int,y:&'b int):int {*x=y; ret=0;} fn g(x:&'a mut &'b int,y:&'c int):int {ret=f(x,y);}{}", "nil; 7 7; 2 1"},
		// Of several chains Check's point tells the last inclusion: as near as can be, the first.
		oneReason{"fn f(x:&'a int):&'b int {let z:&int; z=x; ret=z; ret=x;}{}", "nil; 4; 0 1"},
		oneReason{"fn f(x:&'a int):&'b int {ret=x; ret=x;}{}", "nil; 1; 0 1"},
		// Of several lifetimes the first two, of several functions the first.
		oneReason{"fn f(x:&'a int,y:&'b int):&'c int {ret=y; ret=x;}{}", "nil; 2; 0 2"},
		oneReason{"fn e(x:&'a int):&'a int {ret=x;} fn f(x:&'p int,y:&'q int):&'p int {ret=y;} fn g(x:&int):&int {ret=x;}{}", "nil; 5; 1 0"},
	)
}

// TestP22ByChance: programs by chance, also what is left of them when what is refused is struck, statement by statement; all kinds of reasons come up among them.
func TestP22ByChance(t *testing.T) {
	d, seen := &dice{8}, map[string]int{}
	for _, text := range slices.Concat(programs(t, 81, 300), tangles(t, 82, 600), braids(t, 83, 1300)) {
		mended(t, text, d, func(text string, v api.Verdict) {
			if v.Rule != api.Accept && v.Point < 0 {
				return
			}
			j, r := newJudge(graph(t, text)), why(text)
			if flaw := j.flaw(v, r); flaw != "" {
				t.Fatalf("P22: Why(%q): %s: %s (%s)", text, r, flaw, showVerdict(v))
			}
			for _, kind := range j.kindsOf(v, r) {
				seen[kind]++
			}
		})
	}
	for _, kind := range []string{"Accept", "RUninit", "RUninit alone", "RUninit around", "RUninit on", "RBorrowed", "RBorrowed own", "RBorrowed at once", "RBorrowed on", "RBorrowed to the end", "RBorrowed around", "RBorrowed by 1", "RBorrowed by 2", "ROutlives", "ROutlives by 1", "ROutlives by 2"} {
		if seen[kind] < 10 {
			t.Errorf("%s: %d programs only", kind, seen[kind])
		}
	}
}

// kindsOf: what is to be told apart among reasons.
func (j *judge) kindsOf(v api.Verdict, r reason) []string {
	rule := ruleNames[v.Rule]
	list := []string{rule}
	add := func(is bool, kind string) {
		if is {
			list = append(list, rule+" "+kind)
		}
	}
	last, twice := len(r.path)-1, map[int]bool{}
	for _, i := range r.path {
		add(twice[i], "around")
		twice[i] = true
	}
	add(len(r.chain) == 1, "by 1")
	add(len(r.chain) > 1, "by 2")
	switch v.Rule {
	case api.RUninit:
		add(last == 0, "alone")
		add(last > 1, "on")
	case api.RBorrowed:
		add(r.chain == nil, "own")
		add(r.At == last, "at once")
		add(last > r.At+1, "on")
		add(j.locals[r.Var].Life != "", "to the end")
	}
	return list
}

// TestP2WhyFresh: the lists are the caller's: they share no memory with one another nor with those of another answer.
func TestP2WhyFresh(t *testing.T) {
	for _, text := range []string{
		"{let a:int; out a;}",
		"{let b:box int; b=box 1; let p:[box int,box int]; p=[b,b];}",
		"{let a:int; a=1; let r:&int; r=&a; let s:&int; s=r; let p:[&int,int]; p=[s,1]; a=2; out *p.0;}",
		"fn f(x:&'a int,y:&'b int):&'b int {let z:&int; z=x; ret=z;}{}",
	} {
		first, again := why(text), why(text)
		keep := first.String()
		for k := range first.path {
			first.path[k] = -7
		}
		if inRow(first.chain) != strings.Split(keep, "; ")[1] {
			t.Errorf("P2: Why(%q): its two lists share memory", text)
		}
		for k := range first.chain {
			first.chain[k] = -7
		}
		if again.String() != keep || why(text).String() != keep {
			t.Errorf("P2: Why(%q): %s, then %s and %s: lists of two answers share memory", text, keep, again, why(text))
		}
		if cap(again.path) != len(again.path) || cap(again.chain) != len(again.chain) {
			t.Errorf("P2: Why(%q): spare room: %d of %d, %d of %d", text, len(again.path), cap(again.path), len(again.chain), cap(again.chain))
		}
	}
}

// TestP2WhyAlone: what Why says hangs on the text alone: whatever was asked ahead of it, and whatever machines do.
func TestP2WhyAlone(t *testing.T) {
	texts := append(tangles(t, 83, 80), "", "}", "{x=1;}", "{let a:int; out a;}", "fn f(x:&int):&int {ret=x;}{}")
	var first []reason
	for _, text := range texts {
		first = append(first, why(text))
	}
	var running []*machine.Machine
	for i := len(texts) - 1; i >= 0; i-- {
		if m, _ := machine.New(texts[i]); m != nil {
			running = append(running, m)
		}
		for _, m := range running {
			m.Step(i)
		}
		borrowing.Check(texts[(i*7)%len(texts)])
		if again := why(texts[i]); !reflect.DeepEqual(again, first[i]) {
			t.Errorf("P2: Why(%q): %s at one time, %s at another", texts[i], first[i], again)
		}
	}
}

// TestP1WhyEnds: texts of full length whose reasons are long.
func TestP1WhyEnds(t *testing.T) {
	fill := func(head, unit, tail string) string {
		return head + strings.Repeat(unit, (api.MaxText-len(head)-len(tail))/len(unit)) + tail
	}
	links := ""
	for c := 'c'; c <= 'z'; c++ {
		links += strings.NewReplacer("new", string(c), "old", string(c-1)).Replace("let new:&int;new=old;")
	}
	wantReason(t, api.RUninit,
		fill("{let a:int;let b:int;", "b=1;", "out a;}"),
		fill("{let a:int;let b:int;", "if ?{a=1;}", "out a;}"),
		fill("{let a:int;let b:int;", "while ?{a=1;}", "out a;}"),
		fill("{let a:int;", "{}", "out a;}"),
	)
	wantReason(t, api.RBorrowed,
		fill("{let a:int;a=1;let r:&int;r=&a;let s:&int;s=r;", "a=1;", "out *s;}"),
		fill("{let a:int;a=1;let r:&int;r=&a;while ?{", "if ?{a=1;}", "}out *r;}"),
		fill("{let a:int;a=1;let r:&int;r=&a;", "while ?{a=1;}", "out *r;}"),
		"{let a:int;a=1;let b:&int;b=&a;"+links+"a=2;out *z;}",
	)
	wantReason(t, api.ROutlives,
		fill("fn f(x:&'a int):&'b int{let y:&int;y=x;", "y=y;", "ret=y;}{}"),
		fill("fn f(x:&'a int,y:&'b int):&'a int{let z:&int;", "z=f(y,x);", "ret=z;}{}"),
	)
}
