package promises

import (
	"testing"

	"borrowing/api"
)

// TestP17Values: a value that is given side by side to a place of its type.
func TestP17Values(t *testing.T) {
	wantRefused(t, "P17", api.ROutlives,
		"fn f(x:&'a int, y:&'b int):&'a int {@@ret=y;}{}",
		"fn f(x:&'a int, y:&'b int):int {ret=1; @@x=y;}{}",
		"fn f(x:&'a int):box &'b int {@@ret=box x;}{}",
		"fn f(x:&'a int, y:&'b int):[&'a int,&'a int] {@@ret=[x,y];}{}",
		"fn f(x:&'a int, y:&'b int):[&'a int,&'a int] {@@ret=[y,x];}{}",
		"fn f(x:&'a int, y:&'b int):[int,&'a int] {@@ret=[1,y];}{}",
		"fn f(x:[&'a int,&'b int]):[&'b int,&'a int] {@@ret=x;}{}",
		"fn f(x:[&'a int,&'b int]):&'a int {@@ret=x.1;}{}",
		"fn f(x:&'a &'b int):&'a int {@@ret=*x;}{}",
		"fn f(x:&'a [int,[&'b int,&'c int]]):&'c int {@@ret=(*x).1.0;}{}",
		"fn f(x:box &'a int, y:&'b int):int {ret=1; @@*x=y;}{}",
		"fn f(x:[int,box [int,&'a int]], y:&'b int):int {ret=1; @@(*x.1).1=y;}{}",
		"fn f(x:&'a mut &'b int, y:&'c int):int {@@*x=y; ret=0;}{}",
		"fn f(x:&'a mut &'b mut int, y:&'c mut int):int {@@*x=y; ret=0;}{}",
		"fn f(x:&'a mut int, y:&'b mut int):&'a mut int {@@ret=y;}{}",
		"fn f(x:&'a int, y:&'b int):&'b int {let z:&int; z=x; @@ret=z;}{}",
		"fn f(x:&'a int, y:&'b int):&'b int {let z:&int; let w:[&int,box &int]; z=x; w.1=box z; @@ret=*w.1;}{}",
		"fn f(x:&'a int, y:&'b int):&'b int {let z:&int; ret=y; z=y; while ? {@@ret=z; z=x;}}{}",
	)
	wantAccepted(t, "P17",
		"fn f(x:&'a int, y:&'b int):&'b int {ret=y; out *x;}{}",
		"fn f(x:&'a int):box &'a int {ret=box x;}{}",
		"fn f(x:[&'a int,&'b int]):[&'b int,&'a int] {ret=[x.1,x.0];}{}",
		"fn f(x:&'a &'b int):&'b int {ret=*x;}{}",
		"fn f(x:&'a [int,[&'b int,&'c int]]):&'c int {ret=(*x).1.1;}{}",
		"fn f(x:&'a mut &'b int, y:&'b int):int {*x=y; ret=0;}{}",
		"fn f(x:&'a int, y:&'b int):&'b int {let z:&int; z=x; ret=y; z=y; out *z;}{}",
		"fn f(x:&'a int, y:&'b int):[int,int] {ret=[*x,*y];}{}",
		"fn f(x:&'a int, y:&'b int):int {ret=*x+*y;}{}",
		"fn f(x:&'a int, y:&'b int):box int {ret=box *y; *ret=*x;}{}",
	)
}

// TestP17BelowMut: below an m inclusions go both ways, elsewhere one way alone.
func TestP17BelowMut(t *testing.T) {
	wantRefused(t, "P17", api.ROutlives,
		// What comes to *z comes to *x.
		"fn f(x:&'a mut &'b int, y:&'c int):int {ret=1; let z:&mut &int; @@z=x; *z=y;}{}",
		"fn f(x:&'a mut box &'b int, y:&'c int):int {ret=1; let z:&mut box &int; @@z=x; **z=y;}{}",
		"fn f(x:&'a mut [int,&'b int], y:&'c int):int {ret=1; let z:&mut [int,&int]; @@z=x; (*z).1=y;}{}",
		"fn f(x:box &'a mut &'b int, y:&'c int):int {ret=1; let z:box &mut &int; @@z=x; **z=y;}{}",
		"fn f(x:[int,&'a mut &'b int], y:&'c int):int {ret=1; let z:[int,&mut &int]; @@z=x; *z.1=y;}{}",
		"fn f(x:&'a mut &'b int, y:&'c int):int {ret=1; let z:box &mut &int; @@z=box x; **z=y;}{}",
		"fn f(x:&'a mut &'b int, y:&'c int):int {ret=1; let z:[int,&mut &int]; @@z=[1,x]; *z.1=y;}{}",
		// Below an r that is below an m, and below an m that is below an r.
		"fn f(x:&'a mut &'a &'b int, y:&'a &'c int):int {ret=1; let z:&mut & &int; @@z=x; *z=y;}{}",
		"fn f(x:&'a &'a mut &'b int, y:&'a &'a mut &'c int):int {ret=1; let z:& &mut &int; z=x; @@z=y;}{}",
		// Both of two m: what comes to one comes to the other.
		"fn f(x:&'a mut &'b int, y:&'a mut &'c int):int {ret=1; @@x=y;}{}",
	)
	wantAccepted(t, "P17",
		"fn f(x:&'a &'b int, y:&'a &'c int):int {ret=1; let z:& &int; z=x; z=y; out **z;}{}",
		"fn f(x:&'a mut int, y:&'b mut int):int {ret=1; let z:&mut int; z=x; z=y; *z=1;}{}",
		"fn f(x:box &'a int, y:box &'b int):int {ret=1; let z:box &int; z=x; z=y; out **z;}{}",
		"fn f(x:&'a int, y:&'b int):int {let z:box &int; z=box x; z=box y; ret=**z;}{}",
		"fn f(x:&'a int, y:&'b int):int {let z:[&int,&int]; z=[x,y]; z=[y,x]; ret=*z.0;}{}",
		"fn f(x:[&'a mut &'c int,&'a int], y:[&'b mut &'c int,&'b int]):int {ret=1; let z:[&mut &int,&int]; z=x; z=y; out *z.1;}{}",
		"fn f(x:&'a mut &'b int, y:&'b int):int {ret=1; let z:&mut &int; z=x; *z=y;}{}",
		"fn f(x:&'a mut &'b int, y:&'c mut &'b int):int {ret=1; let z:&mut &int; z=x; z=y; out **z;}{}",
	)
}

// TestP17Borrows: what a borrowed place holds, and the references that it lies behind.
func TestP17Borrows(t *testing.T) {
	wantRefused(t, "P17", api.ROutlives,
		"fn f(x:&'a &'b int):&'a &'a int {@@ret=&*x;}{}",
		"fn f(x:&'a mut &'b int):&'a mut &'a int {@@ret=&mut *x;}{}",
		"fn f(x:&'a [int,&'b int]):&'a &'a int {@@ret=&(*x).1;}{}",
		// &mut: what is written through it comes to the borrowed place.
		"fn f(x:&'a int, y:&'b int):&'a int {let v:&int; let w:&mut &int; v=x; w=&mut v; *w=y; @@ret=v;}{}",
		"fn f(x:&'a int, y:&'b int):&'a int {let v:&int; let u:&int; let w:&mut &int; u=y; v=x; w=&mut v; w=&mut u; @@ret=v;}{}",
		"fn f(x:&'a mut &'b int, y:&'c int):int {ret=1; let w:&mut &int; @@w=&mut *x; *w=y;}{}",
		// &: both ways below an m of what is borrowed.
		"fn f(x:&'a mut &'b int, y:&'a mut &'c int):int {ret=1; let s:& &mut &int; s=&x; @@s=&y;}{}",
		// The references that the place lies behind.
		"fn f(x:&'a mut int):&'b mut int {@@ret=&mut *x;}{}",
		"fn f(x:&'a int):&'b int {@@ret=&*x;}{}",
		"fn f(x:&'a mut int):&'b int {@@ret=&*x;}{}",
		"fn f(x:&'a mut [int,int]):&'b mut int {@@ret=&mut (*x).1;}{}",
		"fn f(x:&'a mut &'b mut int):&'a mut int {@@ret=&mut **x;}{}",
		"fn f(x:&'a mut &'b mut int):&'b mut int {@@ret=&mut **x;}{}",
		"fn f(x:&'a &'b mut int):&'b int {@@ret=&**x;}{}",
		"fn f(x:&'a mut &'b int):&'a int {@@ret=&**x;}{}",
		"fn f(x:&'a mut box &'b mut int):&'b mut int {@@ret=&mut ***x;}{}",
		"fn f(x:&'a mut box int):&'b mut int {@@ret=&mut **x;}{}",
		"fn f(x:[&'a mut int,&'b mut int]):&'a mut int {@@ret=&mut *x.1;}{}",
		"fn f(x:&'a mut [int,&'b mut int]):&'b mut int {@@ret=&mut *(*x).1;}{}",
		"fn f(x:&'c mut &'b &'a mut int):&'a int {@@ret=&***x;}{}",
		"fn f(x:&'a &'b mut &'b mut int):&'b int {@@ret=&***x;}{}",
	)
	wantAccepted(t, "P17",
		"fn f(x:&'a &'b int):&'a &'b int {ret=&*x;}{}",
		"fn f(x:&'a mut &'b int):&'a mut &'b int {ret=&mut *x;}{}",
		"fn f(x:&'a int, y:&'b int):&'a int {let v:&int; let u:&int; let w:& &int; u=y; v=x; w=&v; w=&u; ret=v; out **w;}{}",
		"fn f(x:&'a mut int):&'a int {ret=&*x;}{}",
		"fn f(x:&'a mut &'a mut int):&'a mut int {ret=&mut **x;}{}",
		"fn f(x:&'a &'b int):&'b int {ret=&**x;}{}",
		"fn f(x:&'a mut &'b int):&'b int {ret=&**x;}{}",
		"fn f(x:&'a mut &'b [int,box int]):&'b int {ret=&*(**x).1;}{}",
		"fn f(x:&'a mut &'b &'b mut int):&'b int {ret=&***x;}{}",
		"fn f(x:&'a mut &'a &'b int):&'b int {ret=&***x;}{}",
		"fn f(x:[&'a mut int,&'b mut int]):&'b mut int {ret=&mut *x.1;}{}",
		// The new reference may live shorter: nothing comes back to what is borrowed.
		"fn f(x:&'a mut int, y:&'b mut int):int {let z:&mut int; z=&mut *x; z=&mut *y; *z=1; ret=2;}{}",
	)
}

// TestP17Calls: each call has regions of its own, one for each lifetime of the function.
func TestP17Calls(t *testing.T) {
	const id = "fn id(x:&'a int):&'a int {ret=x;} "
	const one = "fn one(x:&'a int, y:&'b int):&'a int {ret=x;} "
	const same = "fn same(x:&'k int, y:&'k int):&'k int {ret=x;} "
	const set = "fn set(x:&'a mut &'b int, y:&'b int):int {ret=0; *x=y;} "
	const two = "fn f(x:&'a int, y:&'b int):&'a int "
	wantRefused(t, "P17", api.ROutlives,
		id+two+"{@@ret=id(y);}{}",
		id+two+"{let z:&int; z=id(y); @@ret=id(z);}{}",
		one+two+"{@@ret=one(y,x);}{}",
		same+two+"{@@ret=same(x,y);}{}",
		same+two+"{@@ret=same(y,x);}{}",
		set+"fn f(x:&'a mut &'b int, y:&'c int):int {@@ret=set(x,y);}{}",
		"fn f(x:&'a int, y:&'b int):&'a int {if ? {@@ret=f(y,x);} else {ret=x;}}{}",
		"fn f(x:&'a int, y:&'b int):&'a int {if ? {@@ret=g(y,x);} else {ret=x;}} fn g(x:&'a int, y:&'b int):&'a int {ret=f(x,y);}{}",
		"fn f(x:&'a int, y:&'b int):&'a int {if ? {ret=g(x,y);} else {ret=x;}} fn g(x:&'a int, y:&'b int):&'a int {@@ret=f(y,x);}{}",
		// The result is laid beside the place, both ways below an m.
		"fn g(x:&'a mut &'b int):&'a mut &'b int {ret=x;} fn f(x:&'a mut &'b int, y:&'c int):int {ret=1; let z:&mut &int; @@z=g(x); *z=y;}{}",
	)
	wantAccepted(t, "P17",
		id+two+"{let z:&int; z=id(y); ret=id(x); out *z;}{}",
		id+two+"{while ? {let z:&int; z=id(y);} ret=id(x);}{}",
		one+two+"{ret=one(x,y);}{}",
		same+"fn f(x:&'a int, y:&'b int):int {let z:&int; z=same(x,y); ret=*z;}{}",
		set+"fn f(x:&'a mut &'b int, y:&'b int):int {ret=set(x,y);}{}",
		"fn f(x:&'a int, y:&'b int):&'a int {if ? {ret=f(x,y);} else {ret=x;}}{}",
		"fn f(x:&'a int, y:&'b int):&'a int {if ? {ret=g(y,x);} else {ret=x;}} fn g(x:&'a int, y:&'b int):&'b int {ret=f(y,x);}{}",
		// The result comes to the place, and the place does not come to the result.
		"fn g(x:&'a mut &'b int):&'b int {ret=*x;} fn f(x:&'a mut &'b int, y:&'c int):int {let z:&int; z=g(x); z=y; ret=*z;}{}",
		// What lives in no parameter may live as long as is wanted.
		"fn g():[&'a int,&'b int] {ret=g();} fn f():[&'a int,&'b int] {ret=g();}{}",
	)
}

// TestP17Lifetimes: which references of a signature share a region.
func TestP17Lifetimes(t *testing.T) {
	wantRefused(t, "P17", api.ROutlives,
		"fn f(x:&int):&int {@@ret=x;}{}",
		"fn f(x:&int,y:&int):int {ret=1; @@x=y;}{}",
		"fn f(x:&'a int):&int {@@ret=x;}{}",
		"fn f(x:&int):&'a int {@@ret=x;}{}",
		"fn f(x:[&int,&int]):int {ret=1; @@x.0=x.1;}{}",
		"fn f(x:&'a int):&'aa int {@@ret=x;}{}",
		"fn f(x:&'a int):&'A int {@@ret=x;}{}",
	)
	wantAccepted(t, "P17",
		"fn f(x:&int):int {let y:&int; y=x; x=y; ret=*y;}{}",
		"fn f(x:[&'a int,&'a int]):&'a int {x.0=x.1; x=[x.1,x.0]; ret=x.0;}{}",
		"fn f(x:&'9 int):&'9 int {ret=x;} fn g(x:&'a int):&'a int {ret=f(x);}{}",
		// A name means another lifetime in another function.
		"fn f(x:&'a int, y:&'b int):&'b int {ret=y; out *x;} fn g(x:&'b int, y:&'a int):&'a int {ret=f(x,y);}{}",
	)
}

// TestP18First: which two lifetimes, and which point.
func TestP18First(t *testing.T) {
	const three = "fn f(x:[&'a int,[&'b int,&'c int]]):int {ret=0; "
	wantRefused(t, "P18", api.ROutlives,
		// The first lifetime's number counts first, then the second one's.
		"fn f(x:[&'a int,&'b int]):int {x.0=x.1; @@x.1=x.0; ret=0;}{}",
		three+"@@x.0=x.1.1; x.1.1=x.1.0;}{}",
		three+"x.1.1=x.1.0; @@x.0=x.1.1;}{}",
		three+"@@x.1.0=x.1.1; x.1.1=x.0;}{}",
		three+"x.1.0=x.1.1; x.1.1=x.1.0; @@x.0=x.1.0;}{}",
		// As near as can be: one inclusion rather than two, although it comes later.
		"fn f(x:&'a int,y:&'b int):&'b int {let z:&int; z=x; ret=z; @@ret=x;}{}",
		"fn f(x:&'a int,y:&'b int):&'b int {let z:&int; let w:&int; z=x; w=z; ret=w; out *y; @@ret=z;}{}",
		// Of those that are as near the first.
		"fn f(x:&'a int,y:&'b int):&'b int {@@ret=x; ret=x;}{}",
		"fn f(x:&'a int,y:&'b int):&'b int {let z:&int; let w:&int; z=x; w=x; @@ret=w; ret=z;}{}",
		"fn f(x:&'a int,y:&'b int):&'b int {let z:&int; z=y; @@ret=z; z=x; ret=z;}{}",
		// The first function that has such lifetimes.
		"fn e(x:&'a int):&'a int {ret=x;} fn f(x:&int):&int {@@ret=x;} fn g(x:&int):&int {ret=x;}{}",
		"fn e(x:&'a int):&'a int {ret=f(x);} fn f(x:&'a int):&'a int {ret=g(x);} fn g(x:&int):&int {@@ret=x;}{}",
		// The point need not be one that a path leads to from the first lifetime's.
		"fn f(x:&'a int,y:&'b int):&'b int {let z:&int; z=y; @@ret=z; if 0 {z=x;}}{}",
	)
	wantAccepted(t, "P18",
		"{let a:int; a=1; let r:&int; let s:&int; r=&a; s=r; r=s; out *r;}",
		"fn f(x:&'a int):&'a int {ret=x; x=ret; x=x; ret=ret;}{}",
	)
}
