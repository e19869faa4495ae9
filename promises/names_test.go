package promises

import (
	"strings"
	"testing"

	"borrowing/api"
)

// The first table of the document's examples.
func TestExamplesOfTexts(t *testing.T) {
	for _, c := range []struct {
		text            string
		rule, line, col int
	}{
		{"}", api.RParse, 1, 1},
		{"{let x int;}", api.RParse, 1, 8},
		{"{out 5;}", api.RParse, 1, 6},
		{"{x=f(1,2,3);}", api.RParse, 1, 9},
		{"{let x:int;\n\n  $ }", api.RParse, 3, 3},
		{"{x=1;}", api.RName, 1, 2},
		{"{let x:int; let x:int;}", api.RTwice, 1, 17},
		{"{let x:[int,[int,[int,[int,[int,[int,int]]]]]];}", api.RBig, 1, 8},
		{"{let x:[int,int]; x.00=1;}", api.RField, 1, 20},
		{"{let x:int; *x=1;}", api.RDeref, 1, 13},
		{"{let x:int; let r:&int; r=&x; *r=1;}", api.RShared, 1, 31},
		{"{let b:box box int; let c:box int; c=*b;}", api.RMoveOut, 1, 38},
		{"{let b:box int; let r:&box int; let c:box int; r=&b; c=*r;}", api.RShared, 1, 56},
		{"{let x:[int,int]; x=1+2;}", api.RType, 1, 21},
		{"{let x:int; x=f();}", api.RCall, 1, 15},
		{"fn f(a:int):box int {ret=box a;}{let x:int; x=f(1);}", api.RType, 1, 47},
		{"fn f(ret:int):int {}{}", api.RTwice, 1, 4},
	} {
		wantAt(t, c.text, c.rule, c.line, c.col)
	}
}

type ruled struct {
	rule int
	text string
}

func wantRules(t *testing.T, list []ruled) {
	t.Helper()
	for _, c := range list {
		wantRule(t, c.rule, c.text)
	}
}

func wantGraphs(t *testing.T, list []string) {
	t.Helper()
	for _, text := range list {
		graph(t, text)
	}
}

// TestP5Steps: stars are gone behind the fields that stand ahead of them, unless brackets say otherwise.
func TestP5Steps(t *testing.T) {
	const lets = "{let x:[box int,&[int,box [int,int]]]; let y:box [int,box int]; let z:box box int; let n:int; "
	for _, c := range []struct{ place, steps string }{
		{"*x.0", "0*"}, {"*(x.0)", "0*"}, {"*(x).0", "0*"}, {"(*x.0)", "0*"}, {"(*x.1).0", "1*0"}, {"(*((x)).1).0", "1*0"}, {"(*(*x.1).1).0", "1*1*0"}, {"(*((*x.1).1)).1", "1*1*1"},
	} {
		p, _, _ := graph(t, lets+"out "+c.place+";}")
		if p[4].A != (api.Opnd{Kind: api.Place, N: 0, Proj: c.steps}) {
			t.Errorf("P5: the place %s: %s, want the steps %s", c.place, showPoint(p[4]), c.steps)
		}
	}
	for _, c := range []struct {
		place, steps string
		n            int
	}{{"(*y).0", "*0", 1}, {"*(*y).1", "*1*", 1}, {"**z", "**", 2}, {"*(*z)", "**", 2}, {"((*((*(z)))))", "**", 2}} {
		p, _, _ := graph(t, lets+c.place+"=1;}")
		if p[4].DVar != c.n || p[4].DProj != c.steps {
			t.Errorf("P5: the place %s: %s, want the steps %s", c.place, showPoint(p[4]), c.steps)
		}
	}
	wantRules(t, []ruled{
		{api.RField, lets + "out *y@.0;}"},
		{api.RField, lets + "out (*y)@.2;}"},
		{api.RDeref, lets + "out @*x;}"},
		{api.RDeref, lets + "out (@*x).0;}"},
	})
}

func TestP5Scopes(t *testing.T) {
	wantGraphs(t, []string{
		"{let a:int; {a=1; {a=2;}} a=3;}",
		"{{let a:int; a=1;} {let a:box int; a=box 1;} let a:[int,int]; a=[1,2];}",
		"{if ? {let a:int; a=1;} else {let a:int; a=2;} while ? {let a:int; a=3;} let a:int;}",
		"fn f(a:int,b:int):int {ret=a+b; {ret=a;} if a {b=a;}} {let a:int; let b:int; let ret:int; ret=1;}",
		"fn f(a:int):int {ret=a;} fn g(a:int):int {let b:int; b=f(a); ret=b;} {let b:int; b=g(1);}",
		"fn f(f:int):int {ret=f; f=f(f);}{let f:int; f=f(f);}",
		"fn ret():int {ret=ret();}{}",
		"{let ret:int; ret=1;}",
		// Functions are known ahead of their text, and within it.
		"fn f():int {ret=g();} fn g():int {ret=f(); ret=g();}{}",
	})
	wantRules(t, []ruled{
		{api.RName, "{@a=1; let a:int;}"},
		{api.RName, "{{let a:int;} @a=1;}"},
		{api.RName, "{if ? {let a:int;} else {@a=1;}}"},
		{api.RName, "{if ? {let a:int;} @a=1;}"},
		{api.RName, "{while ? {let a:int;} out @a;}"},
		{api.RName, "{@ret=1;}"},
		{api.RName, "fn f(a:int):int {ret=1;}{@a=1;}"},
		{api.RName, "fn f(a:int):int {ret=1;} fn g():int {ret=@a;}{}"},
		{api.RName, "fn f():int {let a:int;} fn g():int {ret=@a;}{let a:int;}"},
		{api.RName, "fn f():int {ret=@a;}{let a:int;}"},
		{api.RName, "fn f():int {ret=1;}{out @f;}"},
		{api.RName, "{let a:int; @A=1;}"},
		{api.RName, "{let a:int; @aa=1;}"},
		{api.RTwice, "{let a:int; let @a:box int;}"},
		{api.RTwice, "{let a:int; {let @a:int;}}"},
		{api.RTwice, "{let a:int; if ? {} else {let @a:int;}}"},
		{api.RTwice, "{let a:int; while ? {{let @a:int;}}}"},
		{api.RTwice, "fn f(a:int):int {let @a:int;}{}"},
		{api.RTwice, "fn f(b:int,a:int):int {{let @a:int;}}{}"},
		{api.RTwice, "fn f(a:int):int {let @ret:int;}{}"},
		{api.RTwice, "{let ret:int; let @ret:int;}"},
	})
}

const six = "[int,[int,[int,[int,[int,int]]]]]"
const seven = "[int,[int,[int,[int,[int,[int,int]]]]]]"

func TestP6Signatures(t *testing.T) {
	wantRules(t, []ruled{
		{api.RTwice, "fn f():int {} fn @f():int {}{}"},
		{api.RTwice, "fn f():int {} fn g():int {} fn h():int {} fn @g(a:int):box int {}{}"},
		{api.RTwice, "fn f(a:int,@a:box int):int {}{}"},
		{api.RTwice, "fn @f(ret:int):int {}{}"},
		{api.RTwice, "fn @f(a:int,ret:int):int {}{}"},
		{api.RTwice, "fn f(ret:int,@ret:int):int {}{}"},
		{api.RBig, "fn f(a:@" + seven + "):int {}{}"},
		{api.RBig, "fn f(a:int,b:@" + seven + "):int {}{}"},
		{api.RBig, "fn f():@" + seven + " {}{}"},
		{api.RBig, "fn f(a:@[[[&'a int,&int],[box int,int]],[&mut [int,int],[int,int]]]):int {}{}"},
	})
	wantGraphs(t, []string{
		"fn f(a:" + six + "):" + six + " {ret=a;}{}",
		"fn f(a:&" + seven + ",b:box " + seven + "):&mut " + seven + " {}{}",
		"fn f(a:[[[&'a int,&int],[box int,int]],[&mut [int,int],int]]):int {}{}",
		"fn f(a:int):int {} fn g(a:int):int {} fn F(A:int,a:int):int {}{}",
		"fn f(f:int):int {} fn g(f:int):int {}{}",
	})
}

// TestP6First: which of two broken rules of signatures comes first.
func TestP6First(t *testing.T) {
	wantRules(t, []ruled{
		// Of one function: its name, its parameters one by one, its result, its lifetimes.
		{api.RTwice, "fn f():int {} fn @f(a:int,a:int):int {}{}"},
		{api.RTwice, "fn f():int {} fn @f(a:" + seven + "):int {}{}"},
		{api.RBig, "fn f(a:@" + seven + ",a:int):int {}{}"},
		{api.RTwice, "fn f(a:int,@a:" + seven + "):int {}{}"},
		{api.RBig, "fn f(ret:@" + seven + "):int {}{}"},
		{api.RBig, "fn f(ret:int,a:@" + seven + "):int {}{}"},
		{api.RTwice, "fn @f(ret:int):" + seven + " {}{}"},
		{api.RBig, "fn f():@[" + strings.Repeat("&", 27) + "int," + six + "] {}{}"},
		{api.RTwice, "fn @f(ret:" + strings.Repeat("&", 27) + "int):int {}{}"},
		// Of several: in the order of the text.
		{api.RBig, "fn f(a:@" + seven + "):int {} fn f():int {}{}"},
		{api.RTwice, "fn f(a:int,@a:int):int {} fn f():int {}{}"},
		{api.RBig, "fn @f(a:" + strings.Repeat("&", 27) + "int):int {} fn f():int {}{}"},
		{api.RBig, "fn f():@" + seven + " {} fn g(a:int,a:int):int {}{}"},
		// All signatures ahead of all blocks.
		{api.RTwice, "fn f():int {x=1;} fn @f():int {}{}"},
		{api.RTwice, "fn f():int {let ret:int;} fn g(a:int,@a:int):int {}{}"},
		{api.RBig, "fn f(a:int):int {a=box a;} fn g():@" + seven + " {}{x=1;}"},
		// The text ahead of all.
		{api.RParse, "fn f():int {} fn f():int {}{@"},
		{api.RParse, "{x=1;}@$"},
		{api.RParse, "fn f(a:" + seven + "):int {}{x=1@}"},
	})
	wantAt(t, "fn f():int {} fn f():int {}{x=1;}"+strings.Repeat(" ", 512), api.RLong, 0, 0)
}

func TestP6Lifetimes(t *testing.T) {
	refs := func(n int) string { return strings.Repeat("&", n) }
	_, l, f := graph(t, "fn f(a:"+refs(26)+"int):int {}{}")
	if f[0].Lives != 26 || l[0].Life != "abcdefghijklmnopqrstuvwxyz" {
		t.Errorf("P6, P10: 26 lifetimes: %q, %q", showLocals(l), showFuncs(f))
	}
	_, l, f = graph(t, "fn f(a:"+refs(10)+"int,b:"+refs(10)+"int):"+refs(6)+"int {}{}")
	if f[0].Lives != 26 || l[0].Life+l[1].Life+l[2].Life != "abcdefghijklmnopqrstuvwxyz" {
		t.Errorf("P6, P10: 26 lifetimes: %q, %q", showLocals(l), showFuncs(f))
	}
	// Those of one name are one: there may be more references than lifetimes.
	_, l, f = graph(t, "fn f(a:"+refs(25)+"int,b:&'a &'a &'a mut &'a int):&'a int {}{}")
	if f[0].Lives != 26 || l[1].Life != "zzzz" || l[2].Life != "z" {
		t.Errorf("P6, P10: 26 lifetimes: %q, %q", showLocals(l), showFuncs(f))
	}
	wantRules(t, []ruled{
		{api.RBig, "fn @f(a:" + refs(27) + "int):int {}{}"},
		{api.RBig, "fn @f(a:int,b:" + refs(27) + "int):int {}{}"},
		{api.RBig, "fn @f():" + refs(27) + "int {}{}"},
		{api.RBig, "fn @f(a:" + refs(10) + "int,b:" + refs(10) + "int):" + refs(7) + "int {}{}"},
		{api.RBig, "fn @f(a:" + refs(25) + "int,b:&'a int):&'b int {}{}"},
		{api.RBig, "fn g():int {} fn\n@f(a:" + refs(40) + "int):int {}{}"},
	})
	// Each function has its own: 26 in one and 26 in the next.
	_, l, f = graph(t, "fn f(a:"+refs(26)+"int):int {} fn g(a:"+refs(26)+"int):int {}{}")
	if f[0].Lives != 26 || f[1].Lives != 26 || l[2].Life != l[0].Life {
		t.Errorf("P6, P10: 26 lifetimes twice: %q, %q", showLocals(l), showFuncs(f))
	}
	for _, c := range []struct{ sig, lives string }{
		{"(x:&'a int,y:&'b int):&'a int", "a b a"},
		{"(x:&'b int,y:&'a int):&'b int", "a b a"},
		{"(x:&int,y:&int):&int", "a b c"},
		{"(x:&'a int,y:&int):&'a int", "a b a"},
		{"(x:&'a mut &'b int,y:&'b mut &'a int):&'c int", "ab ba c"},
		{"(x:&mut [&'x int,[box &int,&'x mut &'y int]],y:int):[&'y int,&'x int]", "abcbd  db"},
		{"(x:&'a int,y:&'A int):&'a1 int", "a b c"},
		{"(x:[int,box int],y:int):box &'q int", "  a"},
	} {
		_, l, f := graph(t, "fn f"+c.sig+" {}{}")
		if got := l[0].Life + " " + l[1].Life + " " + l[2].Life; got != c.lives {
			t.Errorf("P6, P10: the lifetimes of %s are %q, want %q", c.sig, got, c.lives)
		}
		highest := 0
		for _, s := range c.lives {
			if s != ' ' && int(s-'a')+1 > highest {
				highest = int(s-'a') + 1
			}
		}
		if f[0].Lives != highest {
			t.Errorf("P6, P10: %s has %d lifetimes, want %d", c.sig, f[0].Lives, highest)
		}
	}
}

// all: a variable of each sort, in places of a function's block.
const all = "{let n:int; let b:box int; let c:box box int; let p:[int,int]; let q:[box int,int]; let r:&int; let m:&mut int; let s:&box int; let t:&mut box int; let u:&mut &mut int; let v:& &mut int; let w:box &box int; "

func TestP7Places(t *testing.T) {
	wantRules(t, []ruled{
		{api.RName, all + "@z=1;}"},
		{api.RName, all + "n=@z;}"},
		{api.RName, all + "n=**@z;}"},
		{api.RName, all + "n=((@z).5);}"},
		{api.RName, all + "drop @z.0;}"},
		{api.RName, all + "out *@z;}"},
		{api.RName, all + "if @z {}}"},
		{api.RName, all + "while @z {}}"},
		{api.RName, all + "r=&@z;}"},
		{api.RName, all + "m=&mut *@z;}"},
		{api.RName, all + "b=box @z;}"},
		{api.RName, all + "p=[@z,1];}"},
		{api.RName, all + "p=[1,@z];}"},
		{api.RName, all + "n=@z+1;}"},
		{api.RName, all + "n=1+@z;}"},
		{api.RField, all + "n@.0=1;}"},
		{api.RField, all + "p@.2=1;}"},
		{api.RField, all + "p@.00=1;}"},
		{api.RField, all + "p@.01=1;}"},
		{api.RField, all + "p@.10=1;}"},
		{api.RField, all + "p@.0000=1;}"},
		{api.RField, all + "p.0@.0=1;}"},
		{api.RField, all + "p@.2.0=1;}"},
		{api.RField, all + "p.1@.1.1=1;}"},
		{api.RField, all + "(p.0)@.1=1;}"},
		{api.RField, all + "b@.0=1;}"},
		{api.RField, all + "n=r@.0;}"},
		{api.RField, all + "drop *c@.1;}"},
		{api.RField, all + "out (*b)@.0;}"},
		{api.RDeref, all + "@*n=1;}"},
		{api.RDeref, all + "@*p=1;}"},
		{api.RDeref, all + "n=@*p.0;}"},
		{api.RDeref, all + "n=@**b;}"},
		{api.RDeref, all + "n=@***c;}"},
		{api.RDeref, all + "n=*@**b;}"},
		{api.RDeref, all + "n=@*(*b);}"},
		{api.RDeref, all + "n=(@*(n));}"},
		{api.RDeref, all + "n=(@*n).0;}"},
		{api.RDeref, all + "drop @*n;}"},
		{api.RDeref, all + "out @*q;}"},
		{api.RDeref, all + "r=&@*n;}"},
	})
	wantGraphs(t, []string{
		all + "*b=1; **c=1; p.0=p.1; q.0=b; n=*r; *m=2; **t=3; **u=4; n=**v; n=***w; out **s;}",
	})
}

func TestP7Moves(t *testing.T) {
	wantRules(t, []ruled{
		{api.RMoveOut, all + "b=@*c;}"},
		{api.RMoveOut, all + "b=@(*c);}"},
		{api.RMoveOut, all + "b=@*t;}"},
		{api.RMoveOut, all + "m=@*u;}"},
		{api.RShared, all + "b=@*s;}"},
		{api.RShared, all + "m=@*v;}"},
		{api.RShared, all + "b=@**w;}"},
		{api.RMoveOut, all + "c=box @*c;}"},
		{api.RMoveOut, all + "q=[@*c,1];}"},
		{api.RMoveOut, all + "q=[b,@*c];}"},
		{api.RMoveOut, all + "n=@*c+1;}"},
		{api.RShared, all + "n=1+@*s;}"},
		{api.RMoveOut, all + "if @*c {}}"},
		{api.RShared, all + "while @(*s) {}}"},
		// Of what is dropped it does not matter whether it would be copied.
		{api.RMoveOut, all + "drop @*c;}"},
		{api.RMoveOut, all + "drop @*b;}"},
		{api.RMoveOut, all + "drop @*m;}"},
		{api.RMoveOut, all + "drop @**u;}"},
		{api.RShared, all + "drop @*r;}"},
		{api.RShared, all + "drop @*s;}"},
		{api.RShared, all + "drop @**v;}"},
		{api.RShared, all + "drop @***w;}"},
		{api.RMoveOut, all + "drop @*w;}"},
		// A pair is moved, if one of its parts is.
		{api.RMoveOut, "{let a:box [int,box int]; let b:[int,box int]; b=@*a;}"},
		{api.RMoveOut, "{let a:box [[&mut int,int],int]; let b:[[&mut int,int],int]; b=@*a;}"},
		{api.RShared, "{let a:&[int,box int]; let b:box int; b=@(*a).1;}"},
		{api.RShared, "{let a:&box box int; let b:box int; b=@**a;}"},
	})
	wantGraphs(t, []string{
		all + "n=*b; n=**c; n=*r; n=**s; n=**v; if *b {} while **s {} p=[*b,*r]; n=*b+*r;}",
		all + "b=b; m=m; q=q; drop b; drop q.0; drop q; drop n; drop r; drop m; drop p.1;}",
		// A shared reference is copied, whatever it points to; so is a pair of such.
		"{let a:box &box int; let b:&box int; b=*a; let c:&[&mut int,int]; let d:& &[&mut int,int]; c=*d;}",
		"{let a:box [&box int,[int,& &mut int]]; let b:[&box int,[int,& &mut int]]; b=*a;}",
	})
}

func TestP7Lets(t *testing.T) {
	wantRules(t, []ruled{
		{api.RTwice, "{let a:int; let @a:" + seven + ";}"},
		{api.RBig, "{let a:@" + seven + ";}"},
		{api.RBig, "{let a:\n @[[[int,int],[int,int]],[[int,int],int]];}"},
		{api.RBig, "{let a:@[[[&int,&mut int],[box int,int]],[[&int,int],int]];}"},
		{api.RBig, "fn f():int {let a:@" + seven + ";}{}"},
	})
	wantGraphs(t, []string{
		"{let a:" + six + ";}",
		"{let a:[[[&int,&mut int],[box int,int]],[int,box " + seven + "]];}",
		"{let a:box " + seven + "; let b:&" + seven + "; let c:&mut " + seven + "; let d:&box " + seven + ";}",
	})
}

func TestP7Numbers(t *testing.T) {
	wantRules(t, []ruled{
		{api.RType, all + "out @b;}"}, {api.RType, all + "out @p;}"}, {api.RType, all + "out @r;}"}, {api.RType, all + "out @*c;}"}, {api.RType, all + "out @*s;}"}, {api.RType, all + "out @(q).0;}"},
		{api.RType, all + "if @b {}}"}, {api.RType, all + "if @p {} else {}}"}, {api.RType, all + "while @r {}}"}, {api.RType, all + "while @m {}}"}, {api.RType, all + "while @(q) {}}"},
		{api.RType, all + "if @b {z=1;}}"},
		{api.RName, all + "if n {} else {@z=1;}}"},
		{api.RName, all + "if n {@y=1;} else {z=1;}}"},
		{api.RName, all + "while n {@z=1;} y=1;}"},
	})
	wantGraphs(t, []string{
		all + "out n; out *b; out p.1; out *r; out **c; out (((q))).1; if 3 {} if ? {} if n {} if *r {} while 0 {} while ? {} while p.0 {} while **s {}}",
	})
}

func TestP7Assigns(t *testing.T) {
	wantRules(t, []ruled{
		// The place assigned to.
		{api.RShared, all + "@*r=1;}"}, {api.RShared, all + "@*s=b;}"}, {api.RShared, all + "@**s=1;}"}, {api.RShared, all + "@**v=1;}"}, {api.RShared, all + "@***w=1;}"}, {api.RShared, "{let a:&[int,int]; @(*a).0=1;}"}, {api.RShared, "{let a:&mut [&int,int]; @*(*a).0=1;}"},
		// Borrows.
		{api.RShared, all + "m=&mut @*r;}"}, {api.RShared, all + "m=&mut @**s;}"}, {api.RShared, all + "m=&mut @**v;}"}, {api.RShared, all + "t=&mut @**w;}"},
		// Types.
		{api.RType, all + "n=@b;}"}, {api.RType, all + "b=@n;}"}, {api.RType, all + "b=@1;}"}, {api.RType, all + "p=@?;}"}, {api.RType, all + "p=@q;}"}, {api.RType, all + "r=@m;}"}, {api.RType, all + "m=@r;}"}, {api.RType, all + "r=@n;}"}, {api.RType, all + "n=@(q).0;}"}, {api.RType, all + "b=@c;}"},
		{api.RType, all + "r=@&mut n;}"}, {api.RType, all + "m=@&n;}"}, {api.RType, all + "n=@&n;}"}, {api.RType, all + "r=@&b;}"}, {api.RType, all + "s=@&n;}"}, {api.RType, all + "t=@&mut m;}"}, {api.RType, all + "r=@& p;}"},
		{api.RType, all + "n=@box 1;}"}, {api.RType, all + "b=@box b;}"}, {api.RType, all + "c=@box 1;}"}, {api.RType, all + "p=@box n;}"},
		{api.RType, all + "n=@[1,2];}"}, {api.RType, all + "p=@[1,b];}"}, {api.RType, all + "p=@[b,1];}"}, {api.RType, all + "q=@[1,b];}"}, {api.RType, all + "b=@[1,2];}"},
		{api.RType, all + "n=@1+b;}"}, {api.RType, all + "n=@b+1;}"}, {api.RType, all + "n=@p+p;}"}, {api.RType, all + "b=@b+b;}"}, {api.RType, all + "p=@1+2;}"}, {api.RType, all + "b=@1+2;}"}, {api.RType, all + "n=@r+1;}"}, {api.RType, all + "r=@r+r;}"}, {api.RType, all + "n=@(q).1+m;}"},
		{api.RType, all + "*b=@b;}"}, {api.RType, all + "p.0=@p;}"}, {api.RType, all + "q.0=@1;}"}, {api.RType, all + "*c=@1;}"},
	})
	wantGraphs(t, []string{
		all + "n=n; n=1; n=?; b=b; p=p; r=r; m=m; *c=b; *t=b; *u=m; **u=1; p.0=n; q.0=b; *b=?;}",
		all + "r=&n; r=&*b; r=&p.0; r=&*r; r=&*m; s=&b; s=&*c; s=&*s; r=&**s; s=&*t; v=&m; v=&*u; r=&**v; r=&***w;}",
		all + "m=&mut n; m=&mut *b; m=&mut p.1; m=&mut *m; m=&mut **t; t=&mut b; t=&mut *c; u=&mut m; m=&mut **u; m=&mut q.1;}",
		all + "b=box 1; b=box ?; b=box n; c=box b; w=box s; p=[1,?]; p=[n,*b]; q=[b,1]; n=1+2; n=?+n; n=*b+**c; n=p.0+q.1;}",
		"{let a:[[int,box int],&int]; let b:[int,box int]; let r:&int; a=[b,r]; a.0=b; b=a.0; a.1=r; let s:&[int,box int]; s=&a.0; r=&(*s).0;}",
	})
}

func TestP7Calls(t *testing.T) {
	const fns = "fn o():int {ret=1;} fn i(a:int):box int {ret=box a;} fn d(a:box int,b:&int):&int {ret=b;} fn x(a:&mut int):int {ret=*a;}"
	const lets = fns + "{let n:int; let b:box int; let r:&int; let m:&mut int; let c:box box int; let s:&box int; "
	wantRules(t, []ruled{
		{api.RCall, lets + "n=@f();}"}, {api.RCall, lets + "n=@n();}"}, {api.RCall, lets + "n=@o(1);}"}, {api.RCall, lets + "n=@o(1,2);}"}, {api.RCall, lets + "b=@i();}"}, {api.RCall, lets + "b=@i(1,2);}"}, {api.RCall, lets + "r=@d();}"}, {api.RCall, lets + "r=@d(b);}"},
		{api.RCall, lets + "n=@3();}"}, {api.RCall, lets + "n=@?();}"}, {api.RCall, lets + "n=@(o)();}"}, {api.RCall, lets + "n=@((o))();}"}, {api.RCall, lets + "n=@*o();}"}, {api.RCall, lets + "n=@o.0();}"}, {api.RCall, lets + "n=@(o).0();}"}, {api.RCall, lets + "n=@*z(1);}"}, {api.RCall, lets + "n=@ret();}"}, {api.RCall, lets + "n=@O();}"},
		{api.RType, lets + "b=i(@b);}"}, {api.RType, lets + "b=i(@r);}"}, {api.RType, lets + "r=d(@1,r);}"}, {api.RType, lets + "r=d(b,@1);}"}, {api.RType, lets + "r=d(b,@m);}"}, {api.RType, lets + "n=x(@r);}"}, {api.RType, lets + "n=x(@?);}"},
		{api.RType, lets + "b=@o();}"}, {api.RType, lets + "n=@i(1);}"}, {api.RType, lets + "m=@d(b,r);}"},
		{api.RName, lets + "b=i(@z);}"}, {api.RName, lets + "r=d(b,@z);}"}, {api.RDeref, lets + "b=i(@*n);}"}, {api.RField, lets + "b=i(n@.0);}"},
		{api.RMoveOut, lets + "r=d(@*c,r);}"}, {api.RShared, lets + "r=d(@*s,r);}"}, {api.RMoveOut, lets + "b=i(@*c);}"},
		{api.RCall, "fn f(a:int,b:int):int {ret=@f(a);}{}"},
		// Which comes first.
		{api.RCall, lets + "b=@f(z);}"}, {api.RCall, lets + "b=@o(z);}"}, {api.RCall, lets + "b=@z(*n,n.0);}"},
		{api.RType, lets + "r=d(@n,z);}"}, {api.RName, lets + "r=d(@z,n);}"}, {api.RMoveOut, lets + "n=i(@*c);}"}, {api.RType, lets + "n=i(@r);}"}, {api.RType, lets + "n=d(b,@n);}"}, {api.RName, lets + "@z=f();}"}, {api.RShared, lets + "@*r=f();}"},
	})
	wantGraphs(t, []string{
		lets + "n=o(); b=i(1); b=i(?); b=i(n); b=i(*b); b=i(**c); r=d(b,r); n=x(m); *b=o(); *c=i(*r); *m=o();}",
	})
}

// TestP7First: which of two broken rules comes first.
func TestP7First(t *testing.T) {
	wantRules(t, []ruled{
		// In one statement: the place, whether it may be written, the operands from the left, the type.
		{api.RName, all + "@z=y;}"}, {api.RField, all + "n@.0=z;}"}, {api.RDeref, all + "@*n=z;}"}, {api.RShared, all + "@*r=z;}"}, {api.RShared, all + "@*r=b;}"}, {api.RName, all + "n=@z+y;}"}, {api.RName, all + "n=b+@z;}"}, {api.RName, all + "n=[@z,*c];}"}, {api.RMoveOut, all + "n=[@*c,z];}"}, {api.RMoveOut, all + "n=@*c;}"}, {api.RShared, all + "n=@*s;}"}, {api.RShared, all + "r=&mut @*r;}"}, {api.RShared, all + "n=&mut @*r;}"}, {api.RName, all + "p=[b,@z];}"}, {api.RMoveOut, all + "n=b+@*c;}"}, {api.RDeref, all + "n=&mut @*n;}"}, {api.RMoveOut, all + "n=box @*c;}"},
		// In one place: inside out.
		{api.RName, all + "n=(*@z.5);}"}, {api.RField, all + "n=*p@.7;}"}, {api.RField, all + "n=**p.0@.7.8;}"}, {api.RDeref, all + "n=(@*p).7;}"}, {api.RField, all + "n=*(*b)@.0;}"}, {api.RDeref, all + "n=*@*n;}"},
		// A place ahead of what is asked of it.
		{api.RField, all + "drop *c@.0;}"}, {api.RDeref, all + "drop @***c;}"}, {api.RField, all + "out (*c)@.0;}"}, {api.RType, all + "out @*c;}"},
		// Statement by statement.
		{api.RType, all + "n=@b; z=1;}"}, {api.RName, all + "{@z=1;} n=b;}"}, {api.RType, all + "if @b {z=1;}}"}, {api.RTwice, all + "let @n:int; z=1;}"}, {api.RBig, all + "let a:@" + seven + "; let n:int;}"}, {api.RName, all + "while 1 {{@z=1;}} let n:int;}"},
		// Function by function, the program last.
		{api.RName, "fn f():int {@x=1;} fn g():int {y=1;}{z=1;}"}, {api.RName, "fn f():int {} fn g():int {@y=1;}{z=1;}"}, {api.RType, "fn f():int {ret=@box 1;}{z=1;}"},
		{api.RName, "fn f():int {}{@z=1;}"},
	})
}

func TestP8Lifetimes(t *testing.T) {
	wantGraphs(t, []string{
		"fn f(x:&'a int,y:&'b int):&int {ret=x; ret=y; x=y; y=x; let r:&int; r=x; x=r;}{}",
		"fn f(x:&'a mut [&'b int,box &int]):&'c mut [&int,box &'a int] {ret=x; x=ret;}{}",
		"fn f(x:&'a int):&'b int {ret=f(ret); ret=f(x);} fn g(x:&'z int):&int {ret=f(x);}{let n:int; let r:&int; r=&n; r=f(r); r=g(r);}",
		"fn f(x:&'a int):int {let r:& &int; r=&x; let m:&mut &int; m=&mut x; let b:box &int; b=box x; let p:[&int,&int]; p=[x,x]; ret=1;}{}",
	})
	with := "fn f(x:&'a mut &'b int,y:&'b int):&'a int {*x=y; ret=*x;}{let n:int; let r:&int; r=&n;}"
	without := strings.NewReplacer("'a", "  ", "'b", "  ").Replace(with)
	p, l, _ := graph(t, with)
	q, m, _ := graph(t, without)
	compare(t, without, "point", showPoints(q), showPoints(p))
	for i := range l {
		if l[i].Type != m[i].Type || l[i].Name != m[i].Name {
			t.Errorf("P8: variable %d: %q with lifetimes, %q without", i, showLocal(l[i]), showLocal(m[i]))
		}
	}
	wantRules(t, []ruled{
		{api.RType, "fn f(x:&'a int):&'a mut int {ret=@x;}{}"},
		{api.RType, "fn f(x:&'a int):&'a box int {ret=@x;}{}"},
	})
}
