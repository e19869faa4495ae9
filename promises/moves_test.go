package promises

import (
	"testing"

	"borrowing/api"
)

const eat = "fn e(x:box int):int {ret=*x;} fn k(x:box int,y:int):int {ret=*x+y;} fn h(y:int,x:box int):int {ret=*x+y;} fn id(x:box int):box int {ret=x;}"

// TestP16Needs: what a point must find with a value.
func TestP16Needs(t *testing.T) {
	wantRefused(t, "P16", api.RUninit,
		"{let a:int; @@out a;}",
		"{let a:int; let b:int; @@b=a;}",
		"{let a:int; let b:int; @@b=a+1;}",
		"{let a:int; let b:int; @@b=1+a;}",
		"{let a:int; let b:int; a=1; @@b=a+b;}",
		"{let a:int; let b:box int; @@b=box a;}",
		"{let a:int; let p:[int,int]; @@p=[a,1];}",
		"{let a:int; let p:[int,int]; @@p=[1,a];}",
		"{let a:int; @@if a {}}",
		"{let a:int; @@while a {a=1;}}",
		"{let a:int; let r:&int; @@r=&a;}",
		"{let a:int; let r:&mut int; @@r=&mut a;}",
		"{let a:int; @@drop a;}",
		"{let b:box int; @@out *b;}",
		"{let b:box int; @@*b=1;}",
		"{let r:&mut int; @@*r=1;}",
		"{let b:box box int; let r:&int; @@r=&**b;}",
		"{let b:box [int,int]; @@(*b).1=1;}",
		eat+"{let b:box int; let n:int; @@n=e(b);}",
		eat+"{let a:int; let b:box int; b=box 1; let n:int; @@n=k(b,a);}",
		eat+"{let a:int; let b:box int; b=box 1; let n:int; @@n=h(a,b);}",
		"fn f():int {@end@}{}",
		"fn f():int {if ? {ret=1;}@end@}{}",
		"fn f(x:int):[int,int] {ret.0=x;@end@}{}",
	)
	wantAccepted(t, "P16",
		"{let a:int;}",
		"{let a:int; a=1;}",
		"{let p:[int,int]; p.1=2; out p.1;}",
		"fn f(x:box int,y:[int,int]):int {ret=*x+y.1; drop y;}{}",
		"fn f():[int,int] {ret.1=1; ret.0=2;}{}",
	)
}

// TestP16Taken: what takes a cell away, and what does not.
func TestP16Taken(t *testing.T) {
	const b, two = "{let b:box int; b=box 1; ", "{let b:box int; b=box 1; let c:box int; "
	wantRefused(t, "P16", api.RUninit,
		b+"drop b; @@out *b;}",
		b+"drop b; @@drop b;}",
		b+"drop b; @@*b=1;}",
		two+"c=b; @@out *b;}",
		two+"c=b; @@c=b;}",
		two+"c=b; @@drop b;}",
		b+"let c:box box int; c=box b; @@out *b;}",
		b+"let p:[box int,int]; p=[b,1]; @@out *b;}",
		b+"let p:[int,box int]; p=[1,b]; @@out *b;}",
		eat+b+"let n:int; n=e(b); @@out *b;}",
		eat+b+"let n:int; n=h(1,b); @@out *b;}",
		eat+b+"let n:int; n=e(b); @@n=e(b);}",
		"{let a:int; a=1; drop a; @@out a;}",
		"{let a:int; a=1; let r:&mut int; let s:&mut int; r=&mut a; s=r; @@*r=1;}",
		"{let a:int; a=1; let r:&int; r=&a; drop r; @@out *r;}",
		"{let a:int; a=1; let p:[&mut int,int]; let q:[&mut int,int]; let r:&mut int; r=&mut a; p=[r,2]; q=p; @@out p.1;}",
		"{while ? {let a:int; if ? {@@out a;} a=1;}}",
	)
	wantAccepted(t, "P16",
		b+"out *b; *b=2; out *b; drop b;}",
		b+"let r:&box int; r=&b; out *b; out **r;}",
		b+"let r:&mut box int; r=&mut b; *r=box 3; out *b;}",
		two+"c=b; out *c; b=c; out *b;}",
		"{let a:int; a=1; let b:int; b=a; out a; b=a+a; out a;}",
		"{let a:int; a=1; let r:&int; let s:&int; r=&a; s=r; out *r; out *s;}",
		"{let a:int; a=1; let r:&int; r=&a; let p:[int,&int]; let q:[int,&int]; p=[1,r]; q=p; out *p.1; out q.0;}",
		"{while ? {let a:int; a=1; out a;}}",
		b+"drop b; b=box 2; out *b;}",
	)
}

// TestP16Paths: branches and loops.
func TestP16Paths(t *testing.T) {
	const b = "{let b:box int; b=box 1; "
	wantRefused(t, "P16", api.RUninit,
		"{let a:int; if ? {a=1;} @@out a;}",
		"{let a:int; if ? {} else {a=1;} @@out a;}",
		"{let a:int; if ? {a=1;} else {if ? {a=2;}} @@out a;}",
		"{let a:int; while ? {a=1;} @@out a;}",
		"{let a:int; while ? {@@out a; a=1;}}",
		"{let a:int; while 1 {} @@out a;}",
		"{let a:int; if 0 {@@out a;}}",
		"{let a:int; a=1; while ? {while ? {@@out a;} drop a; while ? {if ? {a=1;} else {}}}}",
		b+"while ? {@@drop b;}}",
		b+"let c:box int; while ? {@@c=b;}}",
		b+"if ? {drop b;} @@out *b;}",
		b+"while ? {if ? {@@drop b;} else {b=box 2;}} out *b;}",
		b+"while ? {if ? {b=box 2;} else {b=box 3; drop b;}} @@out *b;}",
		b+"while ? {@@out *b; drop b;}}",
		"fn f(x:box int):int {ret=1; while ? {@@drop x;}}{}",
		"fn f():int {let a:int; @@ret=a;}{}",
		"fn f():int {while ? {ret=1;}@end@}{let z:int; z=1;}",
	)
	wantAccepted(t, "P16",
		"{let a:int; if ? {a=1;} else {a=2;} out a;}",
		"{let a:int; if ? {a=1;} else {if ? {a=2;} else {a=3;}} out a;}",
		"{let a:int; while ? {a=1; out a;}}",
		b+"while ? {drop b; b=box 2;} out *b;}",
		b+"if ? {drop b;} b=box 2; out *b;}",
		b+"if ? {drop b;} else {out *b;}}",
		b+"while ? {let c:box int; c=b; b=c;} out *b;}",
		"fn f():int {if ? {ret=1;} else {ret=2;}}{}",
	)
}

// TestP16Pairs: cells that are taken away and given one by one.
func TestP16Pairs(t *testing.T) {
	const p = "{let b:box int; let c:box int; b=box 1; c=box 2; let p:[box int,box int]; p=[b,c]; "
	const n = "{let p:[[int,int],int]; p.0=[1,2]; p.1=3; "
	wantRefused(t, "P16", api.RUninit,
		"{let p:[box int,box int]; p.0=box 1; out *p.0; @@out *p.1;}",
		"{let p:[int,int]; p.0=1; @@drop p;}",
		"{let p:[int,int]; p.0=1; let r:&[int,int]; @@r=&p;}",
		"{let p:[int,int]; p.1=1; let q:[int,int]; @@q=p;}",
		p+"b=p.0; @@out *p.0;}",
		p+"b=p.1; @@out *p.1;}",
		p+"drop p.0; let q:[box int,box int]; @@q=p;}",
		p+"drop p.1; p.0=box 3; @@drop p;}",
		p+"drop p.0; let r:&[box int,box int]; @@r=&p;}",
		p+"drop p; @@out *p.1;}",
		p+"drop p; p.0=box 1; @@out *p.1;}",
		n+"drop p.0; out p.1; @@out p.0.1;}",
		n+"drop p.0; p.0.0=1; let q:[int,int]; @@q=p.0;}",
		n+"drop p; p.0=[1,2]; let q:[[int,int],int]; @@q=p;}",
		n+"drop p.0.1; let q:[[int,int],int]; q.0.1=1; @@q=p;}",
		n+"drop p.0.1; @@p.0=p.0;}",
		"{let p:[int,[int,[int,[int,[int,int]]]]]; p.0=1; p.1.0=2; p.1.1.0=3; p.1.1.1.0=4; p.1.1.1.1.0=5; out p.1.1.1.1.0; @@out p.1.1.1.1.1;}",
	)
	wantAccepted(t, "P16",
		p+"b=p.0; out *p.1;}",
		p+"drop p.0; p.0=box 3; drop p;}",
		p+"drop p.0; drop p.1; b=box 5; c=box 6; p=[b,c]; out *p.0;}",
		p+"drop p.0; p.0=box 1; let r:&[box int,box int]; r=&p; out *(*r).0;}",
		p+"drop p.0; let r:&box int; r=&p.1; out **r;}",
		n+"drop p.0.1; out p.0.0; out p.1; p.0.1=4; let q:[[int,int],int]; q=p;}",
		n+"drop p; p.0=[1,2]; p.1=3; drop p;}",
		"{let p:[int,int]; p.0=1; p.1=2; let q:[int,int]; q=p;}",
	)
}

// TestP16OnePoint: what a point takes away and gives, or finds gone by its own operands.
func TestP16OnePoint(t *testing.T) {
	const b = "{let b:box int; b=box 1; "
	const p = "{let b:box int; let c:box int; b=box 1; c=box 2; let p:[box int,box int]; p=[b,c]; "
	wantRefused(t, "P16", api.RUninit,
		b+"let p:[box int,box int]; @@p=[b,b];}",
		p+"@@p=[p.0,p.0];}",
		p+"p.0=p.1; out *p.0; @@out *p.1;}",
		eat+b+"let n:int; @@n=k(b,*b);}",
		eat+b+"@@*b=e(b);}",
		eat+p+"@@*p.1=k(p.1,2);}",
		eat+p+"@@*p.1=h(2,p.1);}",
		"{let b:box int; @@b=b;}",
		"fn m(x:[box int,int],y:int):int {ret=x.1;}{let b:box int; b=box 1; let p:[box int,int]; p=[b,1]; let n:int; @@n=m(p,p.1);}",
	)
	wantAccepted(t, "P16",
		b+"b=b; out *b;}",
		p+"p=[p.1,p.0]; out *p.0; out *p.1;}",
		p+"p.0=p.0; out *p.0; out *p.1;}",
		eat+b+"b=id(b); out *b;}",
		eat+b+"let n:int; n=h(*b,b);}",
		eat+p+"*p.0=e(p.1); out *p.0;}",
		b+"*b=*b+*b; out *b;}",
		b+"while ? {b=b;} out *b;}",
	)
}

// TestP16First: the first point, of functions ahead of the program.
func TestP16First(t *testing.T) {
	wantRefused(t, "P16", api.RUninit,
		"{let a:int; let b:int; @@out b; out a;}",
		"{let a:int; while ? {if ? {@@a=a;} else {out a;}} out a;}",
		"fn f():int {@end@} fn g():int {} {let a:int; out a;}",
		"fn f():int {ret=1;} fn g():int {ret=2; drop ret;@end@}{let a:int; out a;}",
		"fn f():int {ret=g();} fn g():int {let a:int; if ? {ret=f();} @@ret=ret+a;}{}",
	)
}
