package promises

import (
	"strconv"
	"strings"
	"testing"

	"borrowing/api"
)

// Which part is without a value decides the fault: the first one that has none.
func TestP13WithoutValue(t *testing.T) {
	// p.0 never had a value, p.1.0 was moved, p.1.1 was dropped.
	const ahead = "{let b:box int; let p:[box int,[box int,box int]]; b=box 1; p.1.0=b; b=box 2; p.1.1=b; drop p.1.1; b=p.1.0; let q:[box int,box int]; let n:int; let r:&int; let w:&mut int; "
	for use, want := range map[string]int{
		"let c:[box int,[box int,box int]]; c=p;": api.FNever,
		"q=p.1;":      api.FMoved,
		"b=p.0;":      api.FNever,
		"b=p.1.0;":    api.FMoved,
		"b=p.1.1;":    api.FDropped,
		"drop p;":     api.FNever,
		"drop p.1;":   api.FMoved,
		"drop p.1.1;": api.FDropped,
		"drop p.0;":   api.FNever,
		"let c:&[box int,[box int,box int]]; c=&p;": api.FNever,
		"let c:&[box int,box int]; c=&p.1;":         api.FMoved,
		"let c:&mut [box int,box int]; c=&mut p.1;": api.FMoved,
		"let c:&mut box int; c=&mut p.1.1;":         api.FDropped,
		"out *p.0;":                                 api.FNever,
		"out *p.1.0;":                               api.FMoved,
		"out *p.1.1;":                               api.FDropped,
		"if *p.1.1 {}":                              api.FDropped,
		"while *p.1.0 {}":                           api.FMoved,
		"n=*p.0;":                                   api.FNever,
		"n=1+*p.1.1;":                               api.FDropped,
		"n=*p.1.0+*p.1.1;":                          api.FMoved,
		"r=&*p.1.0;":                                api.FMoved,
		"w=&mut *p.1.1;":                            api.FDropped,
		"*p.0=1;":                                   api.FNever,
		"*p.1.0=1;":                                 api.FMoved,
		"*p.1.1=1;":                                 api.FDropped,
		"q=[b,p.1.1];":                              api.FDropped,
		"q=[p.0,p.1.1];":                            api.FNever,
		"let c:box box int; c=box p.1.0;":           api.FMoved,
		"let c:box [box int,box int]; c=box p.1;": api.FMoved,
		"out n;":                         api.FNever,
		"n=n;":                           api.FNever,
		"r=&n;":                          api.FNever,
		"let c:int; c=1; drop c; out c;": api.FDropped,
		"p.0=b; p.1.0=b;":                api.FMoved,
		"p.1.1=b; b=p.1.1; p.0=b; p.1.0=p.0; drop p.0;": api.FMoved,
		// What is given a value needs none.
		"p.1.0=b; p.1.1=box 3; p.0=box 4; let c:[box int,[box int,box int]]; c=p;": api.Done,
		"q=[b,b];":                               api.FMoved,
		"b=b; b=b;":                              api.Done,
		"let c:int; c=1; drop c; c=2; out c;":    api.Done,
		"let c:box int; c=b; b=box 1; drop b;":   api.Done,
		"let c:box int; c=b; *c=7; b=c; out *b;": api.Done,
	} {
		if m, d := run(t, ahead+use+"}", 0, 0); d != want {
			t.Errorf("P13: %s: %d at %d, want %d", use, d, m.Pc(), want)
		}
	}
}

func TestP12Dangling(t *testing.T) {
	for _, c := range []struct {
		text string
		end  int
	}{
		{"{let r:&int; {let a:int; a=1; r=&a;} out *r;}", api.FDangling},
		{"{let r:&mut int; {let a:int; a=1; r=&mut a;} *r=2;}", api.FDangling},
		{"{let r:&mut int; {let a:int; a=1; r=&mut a;} let s:&int; s=&*r;}", api.FDangling},
		{"{let r:&mut int; {let a:int; a=1; r=&mut a;} let s:&mut int; s=&mut *r;}", api.FDangling},
		{"{let r:&[int,int]; {let a:[int,int]; a=[1,2]; r=&a;} out (*r).1;}", api.FDangling},
		{"{let b:box int; b=box 1; let r:&int; r=&*b; drop b; out *r;}", api.FDangling},
		{"{let b:box int; b=box 1; let r:&int; r=&*b; b=box 2; out *r;}", api.FDangling},
		{"{let r:&int; {let b:box int; b=box 1; r=&*b;} out *r;}", api.FDangling},
		{"{let b:box box int; let c:box int; c=box 1; b=box c; let r:&int; r=&**b; drop b; out *r;}", api.FDangling},
		{"{let b:box [int,box int]; let c:[int,box int]; let d:box int; d=box 1; c=[1,d]; b=box c; let r:&int; r=&*(*b).1; c=[2,d]; *b=c; out *r;}", api.FMoved},
		{"{let b:box [int,box int]; let c:[int,box int]; let d:box int; d=box 1; c=[1,d]; b=box c; let r:&int; r=&*(*b).1; d=box 2; (*b).1=d; out *r;}", api.FDangling},
		{"{let p:[box int,box int]; let b:box int; b=box 1; let c:box int; c=box 2; p=[b,c]; let r:&int; r=&*p.1; drop p; out *r;}", api.FDangling},
		{"{let p:[box int,box int]; let b:box int; b=box 1; let c:box int; c=box 2; p=[b,c]; let r:&int; r=&*p.1; drop p.0; out *r;}", api.Done},
		{"{let p:[box int,box int]; let b:box int; b=box 1; let c:box int; c=box 2; p=[b,c]; let r:&int; r=&*p.1; p.0=box 3; out *r;}", api.Done},
		{"fn f(x:int):&int {ret=&x;}{let r:&int; r=f(1); out *r;}", api.FDangling},
		{"fn f(x:box int):&int {ret=&*x;}{let r:&int; let b:box int; b=box 1; r=f(b); out *r;}", api.FDangling},
		{"fn f(x:box int):box int {ret=x;}{let r:&int; let b:box int; b=box 1; r=&*b; b=f(b); out *r;}", api.Done},
		// What a moved box points to stays.
		{"{let c:box int; {let b:box int; b=box 1; c=b;} out *c;}", api.Done},
		{"{let c:box int; let r:&int; {let b:box int; b=box 1; r=&*b; c=b;} out *r;}", api.Done},
		// A reference to what is gone may be copied and moved; it may not be followed.
		{"{let r:&int; let s:&int; {let a:int; a=1; r=&a;} s=r; r=s; drop r;}", api.Done},
		{"{let r:&mut int; let s:&mut int; {let a:int; a=1; r=&mut a;} s=r; drop s;}", api.Done},
		{"{let r:& &int; let s:&int; {let a:int; a=1; s=&a; r=&s;} s=*r; out **r;}", api.FConflict},
		{"{let r:& &int; let s:&int; {let a:int; a=1; s=&a; r=&s;} out **r;}", api.FDangling},
		// Cut and gone: the cut comes first.
		{"{let r:&int; {let a:int; a=1; r=&a; a=2;} out *r;}", api.FConflict},
		{"{let r:&mut int; {let a:int; a=1; r=&mut a; a=2;} *r=1;}", api.FConflict},
	} {
		if m, d := run(t, c.text, 0, 0); d != c.end {
			t.Errorf("P12: %q: %d at %d, want %d", c.text, d, m.Pc(), c.end)
		}
	}
	const text = "{let b:box box int; let c:box int; c=box 1; b=box c; let r:&int; r=&**b; drop b; out *r;}"
	m, _ := run(t, text, 0, 0)
	wantShow(t, text, m, "7@7|#0 x|#1 <|#2 gone|#3 gone|#4 &2.0+1/0|(0 b=#0 c=#1 r=#4|/0 2.0+1 0")
}

func TestP12Conflict(t *testing.T) {
	const ahead = "fn f(x:int,y:int):int {ret=x+y;}fn g(x:&int):int {ret=*x;}{let a:int; let b:int; let m:&mut int; let r:&int; let s:&int; a=1; b=2; "
	for _, c := range []struct {
		text string
		end  int
	}{
		{"r=&a; a=2; out *r;", api.FConflict},
		{"r=&a; a=2; b=*r;", api.FConflict},
		{"r=&a; a=2; b=1+*r;", api.FConflict},
		{"r=&a; a=2; if *r {}", api.FConflict},
		{"r=&a; a=2; s=&*r;", api.FConflict},
		{"r=&a; a=2; b=f(1,*r);", api.FConflict},
		{"r=&a; a=2; b=g(r);", api.FConflict},
		{"r=&a; a=2; let c:box int; c=box *r;", api.FConflict},
		{"m=&mut a; out a; *m=1;", api.FConflict},
		{"m=&mut a; out a; m=&mut *m;", api.FConflict},
		{"m=&mut a; out a; r=&*m;", api.FConflict},
		{"m=&mut a; b=a; out *m;", api.FConflict},
		{"m=&mut a; r=&a; out *m;", api.FConflict},
		{"m=&mut a; r=&a; out *r;", api.Done},
		{"m=&mut a; a=3; *m=1;", api.FConflict},
		{"m=&mut a; drop a; *m=1;", api.FConflict},
		{"m=&mut a; b=f(a,1); *m=1;", api.FConflict},
		{"r=&a; b=f(a,1); out *r;", api.Done},
		{"m=&mut a; if a {} *m=1;", api.FConflict},
		{"r=&a; s=r; a=2; out *s;", api.FConflict},
		{"r=&a; s=r; b=2; out *s;", api.Done},
		// The reference itself may be copied, moved, overwritten.
		{"r=&a; a=2; s=r; r=&a; out *r;", api.Done},
		{"m=&mut a; out a; let n:&mut int; n=m; m=&mut a; *m=1;", api.Done},
		// By the road of its own it is not cut.
		{"m=&mut a; *m=5; out *m; *m=*m+1; out *m; out a;", api.Done},
		{"m=&mut a; r=&*m; out *m; out *r;", api.Done},
		{"m=&mut a; r=&*m; *m=1; out *r;", api.FConflict},
		{"m=&mut a; r=&*m; out a; out *r; out *m;", api.FConflict},
		{"m=&mut a; r=&*m; out a; out *r;", api.Done},
	} {
		if m, d := run(t, ahead+c.text+"}", 0, 0); d != c.end {
			t.Errorf("P12: %s: %d at %d, want %d", c.text, d, m.Pc(), c.end)
		}
	}
}

// Which loans there are behind a run, and which of them are cut. The machine is asked at the block's end.
func TestP12Touching(t *testing.T) {
	for _, c := range []struct{ text, want string }{
		// Read, written, dropped, moved, lent again, at its end.
		{"let a:int; a=1; let r:&mut int; r=&mut a; out a;", "0.0+1 0 mut cut"},
		{"let a:int; a=1; let r:&mut int; r=&mut a; if a {}", "0.0+1 0 mut cut"},
		{"let a:int; a=1; let r:&int; r=&a; out a;", "0.0+1 0"},
		{"let a:int; a=1; let r:&int; r=&a; a=2;", "0.0+1 0 cut"},
		{"let a:int; a=1; let r:&mut int; r=&mut a; a=2;", "0.0+1 0 mut cut"},
		{"let a:int; a=1; let r:&int; r=&a; drop a;", "0.0+1 0 cut"},
		{"let b:box int; b=box 1; let r:&box int; r=&b; let c:box int; c=b;", "0.0+1 0 cut"},
		{"let a:int; a=1; let r:&int; r=&a; let s:&int; s=&a;", "0.0+1 0|0.0+1 0"},
		{"let a:int; a=1; let r:&int; r=&a; let s:&mut int; s=&mut a;", "0.0+1 0 cut|0.0+1 0 mut"},
		{"let a:int; a=1; let r:&mut int; r=&mut a; let s:&int; s=&a;", "0.0+1 0 mut cut|0.0+1 0"},
		{"let a:int; a=1; let r:&mut int; r=&mut a; let s:&mut int; s=&mut a;", "0.0+1 0 mut cut|0.0+1 0 mut"},
		{"let r:&mut int; {let a:int; a=1; r=&mut a;}", "1.0+1 0 mut"},
		{"let r:&mut int; {let a:box int; a=box 1; r=&mut *a;}", "2.0+1 0 mut"},
		// The loan by which one came, its parent, and theirs are not cut; children and others are.
		{"let a:int; a=1; let r:&mut int; r=&mut a; *r=2; out *r;", "0.0+1 0 mut"},
		{"let a:int; a=1; let r:&mut int; let s:&mut int; r=&mut a; s=&mut *r; *s=2; out *s;", "0.0+1 0 mut|0.0+1 1 mut"},
		{"let a:int; a=1; let r:&mut int; let s:&mut int; r=&mut a; s=&mut *r; *r=2;", "0.0+1 0 mut|0.0+1 1 mut cut"},
		{"let a:int; a=1; let r:&mut int; let s:&mut int; r=&mut a; s=&mut *r; out *r;", "0.0+1 0 mut|0.0+1 1 mut cut"},
		{"let a:int; a=1; let r:&mut int; let s:&mut int; let u:&mut int; r=&mut a; s=&mut *r; u=&mut *s; *u=2;", "0.0+1 0 mut|0.0+1 1 mut|0.0+1 2 mut"},
		{"let a:int; a=1; let r:&mut int; let s:&mut int; let u:&mut int; r=&mut a; s=&mut *r; u=&mut *s; *s=2;", "0.0+1 0 mut|0.0+1 1 mut|0.0+1 2 mut cut"},
		{"let a:int; a=1; let r:&mut int; let s:&mut int; let u:&mut int; r=&mut a; s=&mut *r; u=&mut *s; *r=2;", "0.0+1 0 mut|0.0+1 1 mut cut|0.0+1 2 mut cut"},
		{"let a:int; a=1; let r:&mut int; let s:&mut int; let u:&mut int; r=&mut a; s=&mut *r; u=&mut *r;", "0.0+1 0 mut|0.0+1 1 mut cut|0.0+1 1 mut"},
		{"let a:int; a=1; let r:&mut int; let s:&int; let u:&int; r=&mut a; s=&*r; u=&*r; out *s; out *u; out *r;", "0.0+1 0 mut|0.0+1 1|0.0+1 1"},
		{"let a:int; a=1; let r:&mut int; let s:&int; let u:&mut int; r=&mut a; s=&*r; u=&mut *r;", "0.0+1 0 mut|0.0+1 1 cut|0.0+1 1 mut"},
		{"let a:int; a=1; let r:&mut int; let s:&int; let u:&int; r=&mut a; s=&*r; u=&*s; out a;", "0.0+1 0 mut cut|0.0+1 1|0.0+1 2"},
		{"let a:int; a=1; let r:&int; let s:&int; r=&a; s=&*r; a=1;", "0.0+1 0 cut|0.0+1 1 cut"},
		// Parts of pairs.
		{"let p:[int,int]; p=[1,2]; let r:&mut int; r=&mut p.0; p.1=5; out p.1; drop p.1;", "0.0+1 0 mut"},
		{"let p:[int,int]; p=[1,2]; let r:&mut int; r=&mut p.1; p.0=5; out p.0; drop p.0;", "0.1+1 0 mut"},
		{"let p:[int,int]; p=[1,2]; let r:&mut int; r=&mut p.0; let q:[int,int]; q=p;", "0.0+1 0 mut cut"},
		{"let p:[int,int]; p=[1,2]; let r:&mut int; r=&mut p.1; let q:[int,int]; q=p;", "0.1+1 0 mut cut"},
		{"let p:[int,int]; p=[1,2]; let r:&mut [int,int]; r=&mut p; out p.0;", "0.0+2 0 mut cut"},
		{"let p:[int,int]; p=[1,2]; let r:&mut [int,int]; r=&mut p; out p.1;", "0.0+2 0 mut cut"},
		{"let p:[[int,int],[int,int]]; p.0=[1,2]; p.1=[3,4]; let r:&mut [int,int]; let s:&mut int; r=&mut p.0; s=&mut p.1.0; out p.1.1; out p.0.1;", "0.0+2 0 mut cut|0.2+1 0 mut"},
		{"let p:[[int,int],[int,int]]; p.0=[1,2]; p.1=[3,4]; let r:&mut [[int,int],[int,int]]; let s:&mut int; let u:&mut int; r=&mut p; s=&mut (*r).0.1; u=&mut (*r).1.0; *s=1; *u=1; (*r).1.0=4;", "0.0+4 0 mut|0.1+1 1 mut|0.2+1 1 mut cut"},
		// A pointer's cell is touched as its place is: read or written.
		{"let a:int; a=1; let m:&mut int; m=&mut a; let w:&mut &mut int; w=&mut m; out *m;", "0.0+1 0 mut|1.0+1 0 mut cut"},
		{"let a:int; a=1; let m:&mut int; m=&mut a; let w:& &mut int; w=&m; out *m;", "0.0+1 0 mut|1.0+1 0"},
		{"let a:int; a=1; let m:&mut int; m=&mut a; let w:& &mut int; w=&m; *m=1;", "0.0+1 0 mut|1.0+1 0 cut"},
		{"let a:int; a=1; let m:&mut int; m=&mut a; let w:& &mut int; w=&m; let s:&int; s=&*m;", "0.0+1 0 mut|1.0+1 0|0.0+1 1"},
		{"let a:int; a=1; let m:&mut int; m=&mut a; let w:& &mut int; w=&m; let s:&mut int; s=&mut *m;", "0.0+1 0 mut|1.0+1 0 cut|0.0+1 1 mut"},
		{"let a:int; a=1; let m:&mut int; m=&mut a; let w:&mut &mut int; w=&mut m; **w=5; out **w;", "0.0+1 0 mut|1.0+1 0 mut"},
		{"let a:int; a=1; let m:&mut int; m=&mut a; let w:&mut &mut int; w=&mut m; let s:&mut int; s=&mut **w; *s=1;", "0.0+1 0 mut|1.0+1 0 mut|0.0+1 1 mut"},
		{"let a:int; a=1; let m:&mut int; m=&mut a; let w:& &mut int; w=&m; let s:&int; s=&**w; *m=1;", "0.0+1 0 mut|1.0+1 0 cut|0.0+1 1 cut"},
		{"let b:box int; b=box 1; let r:&mut box int; r=&mut b; out *b;", "0.0+1 0 mut cut"},
		{"let b:box int; b=box 1; let r:&box int; r=&b; out *b;", "0.0+1 0"},
		{"let b:box int; b=box 1; let r:&box int; r=&b; *b=2;", "0.0+1 0 cut"},
		// A box leads on by the same loan; its object's cells are others than the box's own.
		{"let b:box int; b=box 1; let r:&mut int; r=&mut *b; let c:box int; c=b; *r=5;", "1.0+1 0 mut"},
		{"let b:box int; b=box 1; let r:&mut int; r=&mut *b; let c:box int; c=b; *r=5; out *c;", "1.0+1 0 mut cut"},
		{"let b:box int; b=box 1; let r:&mut int; r=&mut *b; drop b;", "1.0+1 0 mut"},
		{"let b:box int; b=box 1; let w:&mut box int; w=&mut b; let r:&mut int; r=&mut **w; *r=4;", "0.0+1 0 mut|1.0+1 1 mut"},
		{"let b:box int; b=box 1; let w:&mut box int; w=&mut b; let r:&mut int; r=&mut **w; **w=4;", "0.0+1 0 mut|1.0+1 1 mut cut"},
		{"let b:box int; b=box 1; let w:&mut box int; w=&mut b; let r:&mut int; r=&mut **w; *w=box 3;", "0.0+1 0 mut|1.0+1 1 mut"},
		{"let b:box [int,int]; let p:[int,int]; p=[1,2]; b=box p; let r:&mut int; r=&mut (*b).1; (*b).0=4;", "2.1+1 0 mut"},
		{"let b:box [int,int]; let p:[int,int]; p=[1,2]; b=box p; let r:&mut int; r=&mut (*b).1; p=*b;", "2.1+1 0 mut cut"},
		// The value is first, then the place.
		{"let a:int; a=1; let r:&mut int; r=&mut a; a=*r+1; out a;", "0.0+1 0 mut cut"},
		{"let a:int; a=1; let r:&mut int; r=&mut a; r=&mut *r; *r=2;", "0.0+1 0 mut|0.0+1 1 mut"},
		{"let p:[int,int]; p=[1,2]; let r:&int; r=&p.0; p=[*r,7]; out p.0;", "0.0+1 0 cut"},
	} {
		text := "{" + c.text + "}"
		m, d := run(t, text, 0, 0)
		if got := loansOf(m); d != api.Done || got != c.want {
			t.Errorf("P12: %s: %d at %d, loans %s, want %s", c.text, d, m.Pc(), got, c.want)
		}
	}
}

func TestP14Calls(t *testing.T) {
	for _, c := range []struct {
		text string
		end  int
		outs []int
	}{
		{"fn f(x:int,y:int):int {ret=x+y; x=9; y=9;}{let a:int; let b:int; a=1; b=2; a=f(a,b); out a; out b; a=f(a,a); out a;}", api.Done, []int{3, 2, 6}},
		{"fn f():[int,box int] {let b:box int; b=box 5; ret=[4,b];}{let p:[int,box int]; p=f(); out p.0; out *p.1;}", api.Done, []int{4, 5}},
		{"fn f(x:&mut int):int {*x=*x+1; ret=*x;}{let a:int; a=1; let r:&mut int; r=&mut a; a=f(r); out a;}", api.Done, []int{2}},
		{"fn f(n:int):int {let m:int; if n {m=n+9999; m=f(m); ret=m+2;} else {ret=5;}}{let a:int; a=5; a=f(a); out a;}", api.Done, []int{15}},
		{"fn f(n:int):int {if n {n=g(n); ret=n+1;} else {ret=0;}} fn g(n:int):int {n=n+9999; ret=f(n);}{let a:int; a=2; a=f(a); out a;}", api.Done, []int{2}},
		{"fn f():int {ret=3;}{let p:[int,int]; p.1=f(); out p.1; let b:box int; b=box 0; *b=f(); out *b; let r:&mut int; r=&mut p.1; *r=f(); out *r; out p.0;}", api.FNever, []int{3, 3, 3}},
		{"fn f(x:box int):int {ret=1;}{let a:int; let b:box int; b=box 1; a=f(b); a=f(b);}", api.FMoved, nil},
		{"fn f(x:box int,y:box int):int {ret=1;}{let a:int; let b:box int; b=box 1; a=f(b,b);}", api.FMoved, nil},
		{"fn f(x:int,y:int):int {ret=1;}{let a:int; let b:int; a=f(a,b);}", api.FNever, nil},
		{"fn f():int {if ? {ret=1;}}{let a:int; a=f();}", api.FNever, nil},
		{"fn f():box int {ret=box 1; let b:box int; b=ret;}{let a:box int; a=f();}", api.FMoved, nil},
		{"fn f():box int {ret=box 1; drop ret;}{let a:box int; a=f();}", api.FDropped, nil},
		{"fn f(x:&int):&int {ret=x;}{let a:int; a=1; let r:&int; let s:&int; r=&a; s=f(r); out *s; a=2; out *s;}", api.FConflict, []int{1}},
	} {
		m, d := run(t, c.text, 0, 0)
		if d != c.end {
			t.Errorf("P14: %q: %d at %d, want %d", c.text, d, m.Pc(), c.end)
		}
		wantOuts(t, c.text, m, c.outs...)
	}
}

func TestP14Ends(t *testing.T) {
	for _, c := range []struct{ text, want string }{
		// ret has no value: the function is still at work.
		{"fn f(x:box int):int {}{let a:int; let b:box int; b=box 1; a=f(b);}", "4@2|#0 -|#1 <|#2 gone|#3 gone|#4 -|(0 a=#0 b=#1|(7 ret=#4"},
		{"fn f():[int,int] {ret.1=1;}{let p:[int,int]; p=f();}", "4@2|#0 - -|#1 - 1|(0 p=#0|(5 ret=#1"},
		// The place cannot be found: the function is no longer at work, and the point that called it comes next.
		{"fn f():int {ret=1;}{let r:&mut int; *r=f();}", "4@4|#0 -|#1 gone|(0 r=#0"},
		{"fn f(x:&mut int):int {*x=5; ret=1;}{let a:int; a=3; let r:&mut int; let s:&mut int; r=&mut a; s=&mut *r; *s=f(r);}", "8@11|#0 5|#1 <|#2 &0.0+1/1|#3 gone|#4 gone|(0 a=#0 r=#1 s=#2|/0 0.0+1 0 mut|/1 0.0+1 1 mut cut"},
		{"fn f(x:box int):box int {ret=box 1;}{let b:box box int; let c:box int; c=box 2; b=box c; c=box 3; let r:&mut box int; r=&mut *b; drop b; *r=f(c);}", "7@12|#0 x|#1 <|#2 gone|#3 gone|#4 gone|#5 &3.0+1/0|#6 gone|#7 gone|#8 1|(0 b=#0 c=#1 r=#5|/0 3.0+1 0 mut"},
		// What the place owned goes behind the call, not ahead of it.
		{"fn f(x:&box int):box int {ret=box 6; out **x;}{let b:box int; b=box 4; let r:&box int; r=&b; b=f(r); out *b;}", "2@13|#0 gone|#1 gone|#2 gone|#3 gone|#4 gone|#5 gone|(0|/0 0.0+1 0 cut"},
		// ret's value is used as an operand's: moved, it is written; copied, it is read.
		{"fn f(w:&mut &box int):box int {ret=box 1; *w=&ret;}{let n:box int; n=box 0; let o:&box int; o=&n; let w:&mut &box int; w=&mut o; n=f(w);}", "2@15|#0 gone|#1 gone|#2 gone|#3 gone|#4 gone|#5 gone|#6 gone|(0|/0 0.0+1 0 cut|/1 2.0+1 0 mut|/2 5.0+1 0 cut"},
		{"fn f(w:&mut &int):int {ret=1; *w=&ret;}{let n:int; n=0; let o:&int; o=&n; let w:&mut &int; w=&mut o; n=f(w);}", "2@15|#0 gone|#1 gone|#2 gone|#3 gone|#4 gone|(0|/0 0.0+1 0 cut|/1 1.0+1 0 mut|/2 4.0+1 0"},
	} {
		m, _ := run(t, c.text, 0, 0)
		wantShow(t, c.text, m, c.want)
	}
}

// exact: a text with a number in it, which runs to its end, and not with one more.
func exact(t *testing.T, promise, text string, n int) (string, string) {
	t.Helper()
	fits := strings.ReplaceAll(text, "N", strconv.Itoa(n))
	over := strings.ReplaceAll(text, "N", strconv.Itoa(n+1))
	if m, d := run(t, fits, 0, 0); d != api.Done {
		t.Errorf("%s: %q: %d at %d, want Done", promise, fits, d, m.Pc())
	}
	if m, d := run(t, over, 0, 0); d != api.Full {
		t.Errorf("%s: %q: %d at %d, want Full", promise, over, d, m.Pc())
	}
	return fits, over
}

// goneUpTo: the lines of objects that are gone.
func goneUpTo(first, behind int) string {
	s := ""
	for i := first; i < behind; i++ {
		s += "|#" + strconv.Itoa(i) + " gone"
	}
	return s
}

func TestP12Objects(t *testing.T) {
	_, over := exact(t, "P12", "{let n:int; n=N; while n {let a:int; n=n+9999;}}", 47)
	m, _ := run(t, over, 0, 0)
	wantShow(t, over, m, "3@3|#0 1"+goneUpTo(1, 48)+"|(0 n=#0")
	_, over = exact(t, "P12", "{let n:int; n=N; let b:box int; while n {b=box n; n=n+9999;}}", 46)
	m, _ = run(t, over, 0, 0)
	wantShow(t, over, m, "3@4|#0 1|#1 #47"+goneUpTo(2, 47)+"|#47 2|(0 n=#0 b=#1")
	// A function without parameters makes one for its result, one with two makes three.
	exact(t, "P12", "fn f():int {ret=0;}{let n:int; n=N; let b:int; while n {b=f(); n=n+9999;}}", 46)
	exact(t, "P12", "fn f(x:int):int {ret=x;}{let n:int; n=N; let b:int; while n {b=f(n); n=n+9999;}}", 23)
	exact(t, "P12", "fn f(x:int,y:int):int {ret=x;}{let n:int; n=N; let a:int; let b:int; while n {b=f(n,n); n=n+9999;}}", 15)
}

// There is no room for a parameter: the function is at work, with the parameters that were made, and the call comes next.
func TestP14NoRoomForParameters(t *testing.T) {
	// f: 0 to 4. Of 48 objects the loop leaves some.
	const text = "fn f(x:int,y:box int):int {ret=x;}{let n:int; n=N; let a:int; while n {let b:int; n=n+9999;} let b:box int; b=box 8; a=f(7,b);}"
	for n, want := range map[string]string{
		"44": "3@14|#0 0|#1 -" + goneUpTo(2, 46) + "|#46 <|#47 8|(0 n=#0 a=#1 b=#46|(15",
		"43": "3@14|#0 0|#1 -" + goneUpTo(2, 45) + "|#45 <|#46 8|#47 7|(0 n=#0 a=#1 b=#45|(15 x=#47",
		"42": "3@0|#0 0|#1 -" + goneUpTo(2, 44) + "|#44 <|#45 8|#46 7|#47 #45|(0 n=#0 a=#1 b=#44|(15 x=#46 y=#47",
	} {
		program := strings.ReplaceAll(text, "N", n)
		m, _ := run(t, program, 0, 0)
		wantShow(t, program, m, want)
	}
	const one = "fn f(x:int):int {ret=x;}{let n:int; n=46; let a:int; while n {let b:int; n=n+9999;} a=f(7);}"
	m, _ := run(t, one, 0, 0)
	wantShow(t, one, m, "3@11|#0 0|#1 -"+goneUpTo(2, 48)+"|(0 n=#0 a=#1|(12")
}

func TestP12Loans(t *testing.T) {
	_, over := exact(t, "P12", "{let n:int; n=N; let a:int; let r:&int; a=1; while n {r=&a; n=n+9999;}}", 96)
	m, _ := run(t, over, 0, 0)
	want := "3@6|#0 1|#1 1|#2 &1.0+1/95|(0 n=#0 a=#1 r=#2"
	for i := 0; i < 96; i++ {
		want += "|/" + strconv.Itoa(i) + " 1.0+1 0"
	}
	wantShow(t, over, m, want)
	exact(t, "P12", "{let n:int; n=N; let a:int; let r:&mut int; a=1; while n {r=&mut a; n=n+9999;}}", 96)
	exact(t, "P12", "{let n:int; n=N; let a:int; let r:&mut int; a=1; r=&mut a; while n {r=&mut *r; *r=n; n=n+9999;}}", 95)
}

func TestP14Deep(t *testing.T) {
	_, over := exact(t, "P14", "fn f(n:int):int {if n {n=n+9999; ret=f(n);} else {ret=8;}}{let a:int; a=N; a=f(a); out a;}", 5)
	m, _ := run(t, over, 0, 0)
	wantShow(t, over, m, "3@3|#0 6|#1 5|#2 -|#3 4|#4 -|#5 3|#6 -|#7 2|#8 -|#9 1|#10 -|#11 0|#12 -|(0 a=#0|(10 n=#1 ret=#2|(4 n=#3 ret=#4|(4 n=#5 ret=#6|(4 n=#7 ret=#8|(4 n=#9 ret=#10|(4 n=#11 ret=#12")
	// Functions that have ended are no longer at work.
	text := "fn f():int {ret=1;}{let n:int; n=9; let a:int; while n {a=f(); n=n+9999;}}"
	if m, d := run(t, text, 0, 0); d != api.Done {
		t.Errorf("P14: %q: %d at %d", text, d, m.Pc())
	}
}

func TestP13Outs(t *testing.T) {
	fits, over := exact(t, "P13", "{let n:int; n=N; while n {out n; n=n+9999;}}", 16)
	m, _ := run(t, fits, 0, 0)
	wantOuts(t, fits, m, 16, 15, 14, 13, 12, 11, 10, 9, 8, 7, 6, 5, 4, 3, 2, 1)
	m, _ = run(t, over, 0, 0)
	wantOuts(t, over, m, 17, 16, 15, 14, 13, 12, 11, 10, 9, 8, 7, 6, 5, 4, 3, 2)
	wantShow(t, over, m, "3@3|#0 1|(0 n=#0")
}

// What a point has done ahead of what it cannot do stays done.
func TestP13HalfDone(t *testing.T) {
	for _, c := range []struct{ text, want string }{
		{"{let b:box int; b=box 1; let p:[box int,box int]; p=[b,b];}", "5@3|#0 <|#1 1|#2 - -|(0 b=#0 p=#2"},
		{"{let b:box int; b=box 1; let c:box box int; *c=b;}", "4@3|#0 <|#1 1|#2 -|(0 b=#0 c=#2"},
		{"{let c:box box int; *c=box 5;}", "4@1|#0 -|#1 5|(0 c=#0"},
		{"{let a:int; a=1; let c:box &int; *c=&a;}", "4@3|#0 1|#1 -|(0 a=#0 c=#1|/0 0.0+1 0"},
		{"fn f(x:box int,y:int):int {ret=1;}{let b:box int; b=box 1; let n:int; n=f(b,n);}", "4@8|#0 <|#1 1|#2 -|(0 b=#0 n=#2"},
		// The pointer is touched ahead of what it points to.
		{"{let a:int; a=1; let m:&mut int; m=&mut a; let w:&mut &mut int; w=&mut m; a=2; out *m;}", "8@7|#0 2|#1 &0.0+1/0|#2 &1.0+1/1|(0 a=#0 m=#1 w=#2|/0 0.0+1 0 mut cut|/1 1.0+1 0 mut cut"},
		{"{let m:&mut int; let w:& &mut int; {let a:int; a=1; m=&mut a; w=&m;} *m=2;}", "7@7|#0 &2.0+1/0|#1 &0.0+1/1|#2 gone|(0 m=#0 w=#1|/0 2.0+1 0 mut|/1 0.0+1 0 cut"},
		// A pointer without a value is not touched, nor are cells without values.
		{"{let p:[int,int]; p=[1,2]; let r:&mut int; r=&mut p.1; drop p.0; let q:[int,int]; q=p;}", "6@6|#0 x 2|#1 &0.1+1/0|#2 - -|(0 p=#0 r=#1 q=#2|/0 0.1+1 0 mut"},
		{"{let p:[int,int]; p=[1,2]; let r:&mut int; r=&mut p.1; drop p.0; drop p;}", "6@5|#0 x 2|#1 &0.1+1/0|(0 p=#0 r=#1|/0 0.1+1 0 mut"},
		{"{let p:[int,int]; p=[1,2]; let r:&mut int; r=&mut p.1; drop p.0; let q:&mut [int,int]; q=&mut p;}", "6@6|#0 x 2|#1 &0.1+1/0|#2 -|(0 p=#0 r=#1 q=#2|/0 0.1+1 0 mut"},
	} {
		m, _ := run(t, c.text, 0, 0)
		wantShow(t, c.text, m, c.want)
	}
}

// Full and the faults within one point, in the order in which the document tells what a point does.
func TestP13FullAndFaults(t *testing.T) {
	// Three objects, and the loop fills up to 48.
	const objects = "fn f(x:int):int {ret=x;}{let n:int; n=45; let c:box int; let d:box box int; while n {let z:int; n=n+9999;} "
	const loans = "{let n:int; n=N; let a:int; let x:int; let r:&int; let q:box &int; let m:&mut int; let w:&mut &mut int; a=1; while n {r=&a; n=n+9999;} "
	const outs = "{let n:int; n=16; let x:int; while n {out n; n=n+9999;} "
	lent := strings.ReplaceAll(loans, "N", "96")
	for _, c := range []struct {
		text string
		end  int
	}{
		{objects + "c=box 1;", api.Full},
		{objects + "c=box *c;", api.FNever},
		{objects + "d=box c;", api.FNever},
		{objects + "*d=box 1;", api.Full},
		{objects + "let y:int;", api.Full},
		{objects + "n=f(1);", api.Full},
		{objects + "n=f(*c);", api.FNever},
		{objects + "n=n+1; out n; out *c;", api.FNever},
		{lent + "r=&a;", api.Full},
		{lent + "r=&x;", api.FNever},
		{lent + "m=&mut x;", api.FNever},
		{lent + "m=&mut **w;", api.FNever},
		{lent + "*q=&a;", api.Full},
		{lent + "*q=&x;", api.FNever},
		{lent + "a=2; r=&*r;", api.FConflict},
		{lent + "{let b:box int; b=box 3; r=&*b;}", api.Full},
		{lent + "out *r;", api.Done},
		{outs + "out n;", api.Full},
		{outs + "out x;", api.FNever},
		{outs + "x=1; drop x; out x;", api.FDropped},
	} {
		if m, d := run(t, c.text+"}", 0, 0); d != c.end {
			t.Errorf("P13: %q: %d at %d, want %d", c.text, d, m.Pc(), c.end)
		}
	}
	for _, c := range []struct{ text, want string }{
		// No loan can be made: the cells are not touched; the pointers on the way are.
		{"{let n:int; n=93; let a:int; let r:&int; let m:&mut int; let w:& &mut int; a=1; r=&a; m=&mut a; w=&m; while n {r=&n; n=n+9999;} r=&a;}", "1.0+1 0 cut|1.0+1 0 mut|3.0+1 0"},
		{"{let n:int; n=93; let a:int; let r:&int; let m:&mut int; let w:& &mut int; a=1; r=&a; m=&mut a; w=&m; while n {r=&n; n=n+9999;} m=&mut a;}", "1.0+1 0 cut|1.0+1 0 mut|3.0+1 0"},
		{"{let n:int; n=93; let a:int; let r:&int; let m:&mut int; let w:& &mut int; a=1; r=&a; m=&mut a; w=&m; while n {r=&n; n=n+9999;} m=&mut *m;}", "1.0+1 0 cut|1.0+1 0 mut|3.0+1 0 cut"},
		// No number can be put out: its cell was read.
		{"{let n:int; n=16; let a:int; a=1; let m:&mut int; m=&mut a; while n {out n; n=n+9999;} out a;}", "1.0+1 0 mut cut"},
	} {
		m, d := run(t, c.text, 0, 0)
		got := loansOf(m)
		if d != api.Full || !strings.HasPrefix(got+"|", c.want+"|") {
			t.Errorf("P13: %q: %d at %d, loans %s, want Full, %s", c.text, d, m.Pc(), got, c.want)
		}
	}
	// No function more can be at work: the operands were used.
	const deep = "fn f(n:int,b:box int):int {if n {n=n+9999; ret=f(n,b);} else {A}}{let a:int; let b:box int; b=box 1; a=5; a=f(a,b);}"
	text := strings.ReplaceAll(deep, "A", "ret=f(n,b);")
	m, d := run(t, text, 0, 0)
	if show := m.Show(); d != api.Full || !strings.Contains(show, "\n#18 0\n#19 <\n#20 -\n(0 a=#0 b=#1\n") || strings.Count(show, "\n(") != 7 {
		t.Errorf("P14: %q: %d at %d: %q", text, d, m.Pc(), show)
	}
	text = strings.ReplaceAll(deep, "A", "drop b; ret=f(n,b);")
	if m, d := run(t, text, 0, 0); d != api.FDropped {
		t.Errorf("P14: %q: %d at %d, want FDropped", text, d, m.Pc())
	}
}
