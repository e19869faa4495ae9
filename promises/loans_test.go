package promises

import (
	"testing"

	"borrowing/api"
)

const lent = "{let a:int; a=1; let r:&int; %r=&a; "
const lentMut = "{let a:int; a=1; let r:&mut int; %r=&mut a; "

// noLoan: a text without its mark for a loan.
func noLoan(text string) string {
	out := ""
	for i := range text {
		if text[i] != '%' {
			out += text[i : i+1]
		}
	}
	return out
}

func noLoans(texts ...string) []string {
	for i := range texts {
		texts[i] = noLoan(texts[i])
	}
	return texts
}

// TestP19Uses: what uses a variable keeps its loans in scope up to there.
func TestP19Uses(t *testing.T) {
	const f = "fn f(x:&'a int):int {ret=*x;} fn g(x:int,y:&'a int):int {ret=*y+x;} "
	wantRefused(t, "P19", api.RBorrowed,
		lent+"@@a=2; out *r;}",
		lent+"@@a=2; if *r {}}",
		lent+"@@a=2; while *r {}}",
		lent+"let s:&int; @@a=2; s=r;}",
		lent+"let k:int; @@a=2; k=*r+1;}",
		lent+"let k:int; @@a=2; k=1+*r;}",
		lent+"let k:box &int; @@a=2; k=box r;}",
		lent+"let k:[&int,int]; @@a=2; k=[r,1];}",
		lent+"let k:[int,&int]; @@a=2; k=[1,r];}",
		lent+"let k:&int; @@a=2; k=&*r;}",
		lent+"let k:& &int; @@a=2; k=&r;}",
		lent+"let k:&mut &int; @@a=2; k=&mut r;}",
		lentMut+"@@a=2; *r=1;}",
		lentMut+"@@a=2; *r=*r;}",
		f+lent+"let k:int; @@a=2; k=f(r);}",
		f+lent+"let k:int; @@a=2; k=g(1,r);}",
		"{let a:int; a=1; let b:box &mut int; let r:&mut int; %r=&mut a; b=box r; @@a=2; **b=1;}",
		"{let a:int; a=1; let r:&int; %r=&a; let p:[&int,int]; p=[r,1]; @@a=2; out p.1;}",
		"fn f():&'a int {let a:int; a=1; %ret=&a; @@a=2;}{}",
	)
	wantAccepted(t, "P19", noLoans(
		lent+"a=2;}",
		lent+"out *r; a=2;}",
		lent+"a=2; drop r;}",
		lent+"a=2; r=&a; out *r;}",
		lent+"a=2; {let s:&int; s=&a; out *s;}}",
		lent+"let p:[&int,int]; p=[r,1]; a=2; p.1=3;}",
		lent+"let b:box &int; b=box r; a=2; drop b;}",
		lentMut+"*r=1; a=2; out a;}",
	)...)
}

// TestP19NewValues: what gives a variable a wholly new value ends what it carried; a new value of a part does not.
func TestP19NewValues(t *testing.T) {
	const two = "{let a:int; let c:int; a=1; c=2; let r:&int; "
	wantRefused(t, "P19", api.RBorrowed,
		two+"%r=&a; @@a=2; out *r; r=&c;}",
		two+"%r=&a; if ? {r=&c;} @@a=2; out *r;}",
		two+"let p:[&int,int]; r=&c; p=[r,1]; %p.0=&a; p.0=&c; @@a=2; out *p.0;}",
		two+"let b:box &int; r=&c; b=box r; %*b=&a; *b=&c; @@a=2; out **b;}",
		two+"%r=&a; @@a=2; r=&*r; out *r;}",
		"{let a:int; let c:int; a=1; c=2; let r:&int; r=&c; while ? {@@a=3; out *r; %r=&a;}}",
	)
	wantAccepted(t, "P19", noLoans(
		two+"%r=&a; r=&c; a=2; out *r;}",
		two+"%r=&a; a=2; r=&c; out *r;}",
		two+"%r=&a; if ? {r=&c;} else {r=&c;} a=2; out *r;}",
		two+"let p:[&int,int]; r=&a; p=[r,1]; a=2; r=&c; p=[r,1]; out *p.0;}",
		"{let a:int; a=1; let r:&int; while ? {r=&a; out *r; a=2;}}",
		two+"r=&c; while ? {out *r; a=3; r=&a;}}",
		"{let a:int; a=1; while ? {a=2; let p:[&int,int]; p.0=&a; p.1=1; out p.1;}}",
		"{let a:int; a=1; while ? {let r:&int; if ? {r=&a; out *r;} a=2;}}",
	)...)
}

// TestP19Borrowed: a wholly new value of the variable with which the borrowed place begins ends the loan.
func TestP19Borrowed(t *testing.T) {
	const two = "{let a:int; let b:int; a=1; b=2; let r:&mut int; let s:&mut int; r=&mut a; "
	wantRefused(t, "P19", api.RBorrowed,
		two+"%s=&mut *r; if ? {r=&mut b;} @@*r=3; *s=1;}",
		"{let a:int; let b:int; a=1; b=2; let r:&mut int; let s:&mut int; %r=&mut a; s=&mut *r; r=&mut b; *r=3; @@a=4; *s=1;}",
		"{let a:int; a=1; let m:&mut int; %m=&mut a; m=&mut *m; @@a=1; *m=2;}",
		"{let a:int; let b:int; a=1; b=2; let p:[&mut int,int]; let r:&mut int; r=&mut a; p=[r,1]; let s:&mut int; %s=&mut *p.0; p.0=&mut b; @@*p.0=3; *s=1;}",
		// The point that ends the loan may still conflict with it.
		"{let r:&int; let c:int; c=1; r=&c; while ? {out *r; let a:int; a=1; %r=&a;@a@}}",
	)
	wantAccepted(t, "P19", noLoans(
		two+"%s=&mut *r; r=&mut b; *r=3; *s=1;}",
		"{let a:int; a=1; let m:&mut int; m=&mut a; m=&mut *m; *m=1; a=2;}",
		"{let a:int; a=1; let m:&mut int; m=&mut a; while ? {m=&mut *m; *m=1;} a=2;}",
		two+"while ? {%s=&mut *r; *s=1; r=s;} *r=1;}",
		"{let r:&int; while ? {let a:int; a=1; r=&a; out *r;}}",
		"fn g():&'a mut int {ret=g();}{let s:&mut int; s=g(); while ? {let p:[&mut int,int]; p.0=g(); *p.0=3; *s=1; s=&mut *p.0;}}",
		"fn f(x:&'a mut &'a mut int):int {ret=1; let s:&mut int; while ? {let m:&mut int; m=&mut **x; s=&mut *m; *s=1;}}{}",
	)...)
}

// TestP19Loops: paths that go round, past the loan's own point, too.
func TestP19Loops(t *testing.T) {
	wantRefused(t, "P19", api.RBorrowed,
		lent+"while ? {out *r; @@a=2;}}",
		lent+"while ? {@@a=2; out *r;}}",
		lent+"while ? {while ? {out *r;} @@a=2;}}",
		lent+"while ? {if ? {@@a=2;} else {out *r;}}}",
		"{let a:int; let p:[&mut int,int]; a=1; p.1=1; while ? {%@@p.0=&mut a;} out p.1;}",
		"{let a:int; let b:int; a=1; b=2; let x:&mut int; let w:&mut &mut int; x=&mut b; w=&mut x; while ? {%@@*w=&mut a;}}",
		"{let a:int; let c:int; a=1; c=2; let r:&int; r=&c; while *r {@@a=3; if ? {%r=&a;}}}",
	)
	wantAccepted(t, "P19", noLoans(
		lent+"while ? {out *r;} a=2;}",
		lent+"while ? {out *r; if 0 {a=2; r=&a;}}}",
		"{let a:int; a=1; let r:&mut int; while ? {r=&mut a;}}",
		"{let a:int; let p:[&int,int]; a=1; p.1=1; while ? {p.0=&a;} out p.1;}",
		"{let a:int; let b:int; a=1; b=2; let x:&mut int; let w:&mut &mut int; x=&mut b; w=&mut x; *w=&mut a;}",
		"{let a:int; a=1; let r:&mut int; while ? {r=&mut a; *r=2;} out a;}",
	)...)
}

// TestP19Signatures: parameters and results with lifetimes live up to the End.
func TestP19Signatures(t *testing.T) {
	wantRefused(t, "P19", api.RBorrowed,
		"fn f():&'a int {let a:int; a=1; %ret=&a;@a@}{}",
		"fn e():int {ret=1;} fn f():&'a int {let a:int; a=1; %ret=&a; @@a=2; ret=f();}{}",
		"fn e(k:&'a int):&'a int {ret=k;} fn f(x:&'a mut &'b int):int {let a:int; a=1; ret=1; %*x=&a; @@a=2;} fn g():int {ret=1;}{}",
		"fn f(y:int):&'a int {%ret=&y;@y@}{}",
		"fn f(y:box int):&'a int {%ret=&*y;@y@}{}",
		"fn f(x:&'a mut int):int {let a:int; a=1; ret=*x; %x=&mut a;@a@}{}",
		"fn f(x:&'a mut &'b int):int {let a:int; a=1; ret=1; %*x=&a;@a@}{}",
		"fn f(x:&'a mut int):&'a mut int {%ret=&mut *x; @@*x=1;}{}",
		"fn f(x:&'a mut int):&'a mut int {%ret=&mut *x; @@out *x;}{}",
		"fn f(x:&'a mut int):&'a int {%ret=&*x; out *x; @@*x=2;}{}",
		"fn f(x:&'a mut int):&'a mut int {while ? {%@@ret=&mut *x;} ret=x;}{}",
		"fn f(x:&'a int):int {let a:int; a=1; %x=&a; ret=1; @@a=2;}{}",
		// The region of a lifetime is one region: what comes to one of its references comes to all.
		"fn f(x:&'a int, y:&'a int):&'a int {let a:int; a=1; ret=y; %x=&a; x=y;@a@}{}",
		// A result is at its end at the End.
		"fn f():[&'a int,int] {ret.1=1; %ret.0=&ret.1;@end@}{}",
		"fn f(x:&'a mut &'b int):int {ret=1; %*x=&ret;@end@}{}",
		"fn f(x:&'a mut &'b mut int):int {ret=1; %*x=&mut ret;@end@}{}",
		"fn f(x:&'a mut &'b int):box int {ret=box 1; %*x=&*ret;@end@}{}",
	)
	wantAccepted(t, "P19",
		"fn f(x:&'a mut int):&'a mut int {let y:&mut int; y=&mut *x; *y=1; *x=2; ret=x;}{}",
		"fn f(x:&'a mut int):&'a mut int {*x=1; ret=&mut *x;}{}",
		"fn f(x:&'a int):&'a int {ret=x; let r:& &int; r=&ret; out **r;}{}",
		"fn f(x:int):int {let r:&int; r=&x; ret=*r; x=2;}{}",
		"fn f():int {ret=1; let r:&mut int; r=&mut ret; *r=2;}{}",
		"fn f(x:&'a mut int):&'a mut int {if ? {ret=&mut *x;} else {*x=2; ret=x;}}{}",
	)
}

// TestP19Carried: a loan goes wherever inclusions lead.
func TestP19Carried(t *testing.T) {
	const f = "fn id(x:&'a int):&'a int {ret=x;} fn set(x:&'a mut &'b int,y:&'b int):int {*x=y; ret=1;} fn one(x:&'a int,y:&'b int):&'a int {ret=x; out *y;} fn go(x:&'a mut int):&'a mut int {ret=x;} "
	const v = "let v:&int; let c:int; c=2; v=&c; "
	wantRefused(t, "P19", api.RBorrowed,
		lent+"let s:&int; s=r; @@a=2; out *s;}",
		lent+"let s:&int; let p:[int,&int]; let b:box [int,&int]; s=r; p=[1,s]; b=box p; @@a=2; out *(*b).1;}",
		lent+"let s:& &int; s=&r; @@a=2; out **s;}",
		lent+"let s:&int; s=&*r; @@a=2; out *s;}",
		lentMut+"let s:&mut int; s=&mut *r; @@a=2; *s=1;}",
		lentMut+"let s:&int; s=&*r; @@a=2; out *s;}",
		lentMut+"let s:&mut &mut int; let k:&mut int; s=&mut r; k=&mut **s; @@a=2; *k=1;}",
		lent+v+"let w:&mut &int; w=&mut v; *w=r; @@a=2; out *v;}",
		"{let a:int; let c:int; a=1; c=2; let v:&int; v=&a; let w:&mut &int; w=&mut v; %*w=&c; @@c=3; out *v;}",
		f+lent+"let s:&int; s=id(r); @@a=2; out *s;}",
		f+lent+"let s:&int; s=id(r); s=id(s); @@a=2; out *s;}",
		f+lent+v+"let s:&int; s=one(r,v); @@a=2; out *s;}",
		f+lent+v+"let w:&mut &int; let k:int; w=&mut v; k=set(w,r); @@a=2; out *v;}",
		f+lentMut+"let s:&mut int; s=go(r); @@a=2; *s=1;}",
		// Regions know no order of points: s was in r's once.
		lent+"let s:&int; let c:int; c=1; s=&c; out *s; @@a=2; out *s; s=r;}",
	)
	wantAccepted(t, "P19", noLoans(
		f+lent+v+"let s:&int; s=one(v,r); a=2; out *s;}",
		f+lent+v+"let s:&int; let k:&int; s=id(r); k=id(v); a=2; out *k;}",
		lent+v+"let w:& &int; w=&v; a=2; out **w;}",
		lent+v+"let k:int; k=*r; a=2; out k;}",
		f+lentMut+"let s:&mut int; s=go(r); *s=1; a=2;}",
	)...)
}

// TestP20Touches: what is read and what is written, of loans of both kinds.
func TestP20Touches(t *testing.T) {
	const p = "{let p:[int,int]; p=[1,2]; let r:&mut int; %r=&mut p.0; "
	const b = "{let b:box int; b=box 1; let r:&int; %r=&*b; "
	wantRefused(t, "P20", api.RBorrowed,
		lentMut+"@@out a; *r=2;}",
		lentMut+"@@if a {} *r=2;}",
		lentMut+"let k:int; @@k=a; *r=2;}",
		lentMut+"let k:int; @@k=1+a; *r=2;}",
		lentMut+"let k:&int; @@k=&a; *r=2;}",
		lentMut+"let k:&mut int; @@k=&mut a; *r=2;}",
		lentMut+"@@drop a; *r=2;}",
		lent+"let k:&mut int; @@k=&mut a; out *r;}",
		lent+"@@drop a; out *r;}",
		lent+"@@a=a; out *r;}",
		"{let r:&int; {let a:int; a=1; %r=&a;@a@} out *r;}",
		"{let r:&mut int; {let a:int; a=1; %r=&mut a;@a@} *r=1;}",
		b+"let c:box int; @@c=b; out *r;}",
		b+"@@drop b; out *r;}",
		b+"@@*b=2; out *r;}",
		b+"@@b=box 2; out *r;}",
		"{let r:&int; {let b:box int; b=box 1; %r=&*b;@b@} out *r;}",
		p+"@@out p.0; *r=1;}",
		p+"let q:[int,int]; @@q=p; *r=1;}",
		p+"@@p=[1,2]; *r=1;}",
		p+"@@drop p; *r=1;}",
		"{let p:[int,int]; p=[1,2]; let r:&mut [int,int]; %r=&mut p; @@p.1=1; (*r).0=1;}",
		"{let b:box [int,int]; let p:[int,int]; p=[1,2]; b=box p; let r:&mut int; %r=&mut (*b).0; @@*b=p; *r=1;}",
		"{let a:int; a=1; let m:&mut int; m=&mut a; let s:& &mut int; %s=&m; @@*m=4; out **s;}",
		"{let a:int; a=1; let m:&mut int; m=&mut a; let s:&mut &mut int; %s=&mut m; @@out *m; **s=1;}",
		"{let a:int; a=1; let r:&mut int; r=&mut a; let s:&mut int; %s=&mut *r; let k:&mut int; @@k=r; *s=1;}",
		"fn f(x:&'a mut int):int {ret=*x;}{let a:int; a=1; let r:&mut int; let k:int; %r=&mut a; @@a=f(r);}",
	)
	wantAccepted(t, "P20", noLoans(
		lent+"out a; if a {} let k:int; k=a+a; out *r;}",
		lent+"let k:&int; k=&a; out *r; out *k;}",
		p+"out p.1; p.1=3; let k:&int; k=&p.1; *r=*k;}",
		"{let p:[int,int]; p=[1,2]; let r:&int; r=&p.0; out p.0; let q:[int,int]; q=p; out *r;}",
		b+"out *b; let k:&box int; k=&b; out *r;}",
		"{let b:box [int,int]; let p:[int,int]; p=[1,2]; b=box p; let r:&mut int; r=&mut (*b).0; (*b).1=3; *r=1;}",
		"{let a:int; let c:int; a=1; let r:&int; r=&a; c=2; drop c; out *r;}",
	)...)
}

// TestP20Behind: borrowed places behind references.
func TestP20Behind(t *testing.T) {
	const m = "{let a:int; let c:int; a=1; c=2; let r:&mut int; r=&mut a; let s:&mut int; %s=&mut *r; "
	const box = "{let a:int; let c:int; a=1; c=2; let r:&mut int; r=&mut a; let b:box &mut int; b=box r; let s:&mut int; %s=&mut **b; "
	wantRefused(t, "P20", api.RBorrowed,
		m+"@@*r=1; *s=2;}",
		m+"@@out *r; *s=2;}",
		m+"let k:&mut int; @@k=&mut *r; *s=2;}",
		m+"let k:& &mut int; @@k=&r; *s=2;}",
		m+"let k:[&mut int,int]; @@k=[r,1]; *s=2;}",
		box+"@@**b=1; *s=2;}",
		"{let a:box int; a=box 1; let r:&mut box int; r=&mut a; let s:&mut int; %s=&mut **r; @@*r=box 9; *s=2;}",
		"{let b:box box int; let c:box int; c=box 1; b=box c; let s:&mut int; %s=&mut **b; @@*b=box 2; *s=1;}",
		"{let b:box int; b=box 1; let s:&mut int; %s=&mut *b; @@drop b; *s=1;}",
		"{let a:int; a=1; let m:&mut int; m=&mut a; let s:& &mut int; %s=&m; let k:&int; k=&**s; @@*m=2; out *k;}",
	)
	wantAccepted(t, "P20", noLoans(
		// A reference to be written through that is given anew, dropped or at its end: what it pointed to is still there.
		m+"r=&mut c; *s=2;}",
		m+"drop r; *s=2;}",
		"{let a:int; a=1; let s:&mut int; {let r:&mut int; r=&mut a; s=&mut *r;} *s=1;}",
		box+"let k:&mut int; k=&mut c; *b=k; *s=2;}",
		box+"let k:&mut int; k=&mut c; b=box k; *s=2;}",
		box+"drop b; *s=2;}",
		"{let a:int; a=1; let r:&mut int; r=&mut a; let p:[&mut int,int]; p=[r,1]; let s:&mut int; s=&mut *p.0; drop p; *s=1;}",
		"{let a:box int; a=box 1; let c:box int; c=box 2; let r:&mut box int; r=&mut a; let s:&mut int; s=&mut **r; r=&mut c; *s=2;}",
		// Behind a shared reference nothing can be harmed by that reference's end.
		"{let a:int; let c:int; a=1; c=2; let r:&int; let s:&int; r=&a; s=&*r; r=&c; out *s;}",
		"{let a:int; a=1; let s:&int; {let r:&int; r=&a; s=&*r;} out *s;}",
		"{let a:int; a=1; let m:&mut int; m=&mut a; let s:& &mut int; let k:&int; {s=&m; k=&**s; drop s;} out *k;}",
		"{let a:int; a=1; let b:box &int; let r:&int; r=&a; b=box r; let s:&int; s=&**b; drop b; out *s;}",
		"{let b:box int; b=box 1; let r:& box int; r=&b; let s:&int; s=&**r; r=&b; out *s;}",
	)...)
}

// TestP20First: the first point, its first touch, of that the first loan.
func TestP20First(t *testing.T) {
	const ab = "{let a:int; let b:int; a=1; b=2; let r:&mut int; let s:&mut int; "
	wantRefused(t, "P20", api.RBorrowed,
		// The first point, although the loan of a later one comes ahead.
		ab+"r=&mut a; %s=&mut b; @@out b; out a; *r=1; *s=1;}",
		// The first touch, although the loan of the second comes ahead.
		ab+"let p:[int,int]; r=&mut b; %s=&mut a; @@p=[a,b]; *r=1; *s=1;}",
		ab+"let p:[int,int]; %r=&mut b; s=&mut a; @@p=[b,a]; *r=1; *s=1;}",
		ab+"r=&mut b; %s=&mut a; @@b=a; *r=1; *s=1;}",
		ab+"%r=&mut b; s=&mut a; @@a=b+1; *r=1; *s=1;}",
		ab+"r=&mut b; %s=&mut a; @@b=1+a; *r=1; *s=1;}",
		// The first loan, whichever is used first.
		"{let a:int; a=1; let r:&int; let s:&int; %r=&a; s=&a; @@a=2; out *s; out *r;}",
		"{let a:int; a=1; let r:&int; let s:&int; r=&a; %s=&a; out *r; @@a=2; out *s;}",
		"{let p:[int,int]; p=[1,2]; let r:&int; let s:&int; %r=&p.1; s=&p.0; @@p=[3,4]; out *s; out *r;}",
		// The last declared variable is at its end first.
		"{let r:&int; let s:&int; {let a:int; let b:int; a=1; b=2; r=&a; %s=&b;@b@} out *r; out *s;}",
		"fn f():int {let a:int; a=1; let r:&int; %r=&a; @@a=2; ret=*r;}{let a:int; a=1; let r:&int; r=&a; a=2; out *r;}",
	)
}
