package promises

import (
	"fmt"
	"strings"
	"testing"

	"borrowing/api"
)

func TestP9P10Graphs(t *testing.T) {
	for _, c := range []struct {
		text                  string
		points, locals, funcs []string
	}{
		{"{}", []string{"1:3 end 0 >-1"}, nil, []string{" 0..0 param 0 n 0 ret -1 lives 0"}},
		{"{{}{{}}}\n", []string{"2:1 end 0 >-1"}, nil, []string{" 0..0 param 0 n 0 ret -1 lives 0"}},
		{"{let a:int; a=1; out a;}",
			[]string{"1:2 let 0 >1", "1:13 assign 0 use 1 >2", "1:18 out 0 v0 >3", "1:24 dead 0 >4", "1:25 end 0 >-1"},
			[]string{"a i "},
			[]string{" 0..4 param 0 n 0 ret -1 lives 0"}},
		// Every kind of value and of operand.
		{"{let a:[int,int]; let b:box int; let r:&int; let m:&mut int;\n" +
			"a=[?,7]; a.1=a.0; b=box a.1; *b=?; r=&*b;\nm=&mut a.0; a.0=*r+?; a.1=?+0; drop b; out *r;\n}",
			[]string{
				"1:2 let 0 >1", "1:19 let 1 >2", "1:34 let 2 >3", "1:46 let 3 >4",
				"2:1 assign 0 pair ?, 7 >5", "2:10 assign 0.1 use v0.0 >6", "2:19 assign 1 box v0.1 >7", "2:30 assign 1.* use ? >8", "2:36 assign 2 ref v1.* >9",
				"3:1 assign 3 mut v0.0 >10", "3:13 assign 0.0 sum v2.*, ? >11", "3:23 assign 0.1 sum ?, 0 >12", "3:32 drop 1 >13", "3:40 out 0 v2.* >14",
				"4:1 dead 3 >15", "4:1 dead 2 >16", "4:1 dead 1 >17", "4:1 dead 0 >18", "4:2 end 0 >-1",
			},
			[]string{"a pii ", "b bi ", "r ri ", "m mi "},
			[]string{" 0..18 param 0 n 0 ret -1 lives 0"}},
		// Blocks: each ends its own variables, the last first, at its brace.
		{"{let a:int;{let b:int;\nlet c:int;{let d:int; }}let e:int;\n }",
			[]string{
				"1:2 let 0 >1", "1:13 let 1 >2", "2:1 let 2 >3", "2:12 let 3 >4", "2:23 dead 3 >5", "2:24 dead 2 >6", "2:24 dead 1 >7", "2:25 let 4 >8", "3:2 dead 4 >9", "3:2 dead 0 >10", "3:3 end 0 >-1",
			},
			[]string{"a i ", "b i ", "c i ", "d i ", "e i "},
			[]string{" 0..10 param 0 n 0 ret -1 lives 0"}},
		// Tests.
		{"{if ? {} if 1 {} else {} while 2 {} while ? {{}}}",
			[]string{"1:2 test 0 ? >1 /1", "1:10 test 0 1 >2 /2", "1:26 test 0 2 >2 /3", "1:37 test 0 ? >3 /4", "1:50 end 0 >-1"},
			nil,
			[]string{" 0..4 param 0 n 0 ret -1 lives 0"}},
		{"{if 1 {let a:int;} else {let b:int;} if 2 {let c:int;} if 3 {} else {let d:int;} if 4 {let e:int;} else {}}",
			[]string{
				"1:2 test 0 1 >1 /3", "1:8 let 0 >2", "1:18 dead 0 >5", "1:26 let 1 >4", "1:36 dead 1 >5",
				"1:38 test 0 2 >6 /8", "1:44 let 2 >7", "1:54 dead 2 >8",
				"1:56 test 0 3 >11 /9", "1:70 let 3 >10", "1:80 dead 3 >11",
				"1:82 test 0 4 >12 /14", "1:88 let 4 >13", "1:98 dead 4 >14", "1:108 end 0 >-1",
			},
			[]string{"a i ", "b i ", "c i ", "d i ", "e i "},
			[]string{" 0..14 param 0 n 0 ret -1 lives 0"}},
		{"{while 1 {while 2 {if 3 {while 4 {}} else {if 5 {}}}}}",
			[]string{"1:2 test 0 1 >1 /5", "1:11 test 0 2 >2 /0", "1:20 test 0 3 >3 /4", "1:26 test 0 4 >3 /1", "1:44 test 0 5 >1 /1", "1:55 end 0 >-1"},
			nil,
			[]string{" 0..5 param 0 n 0 ret -1 lives 0"}},
		// Functions: ret comes to life at the word fn; parameters end at the brace, the last first.
		{"fn f(a:int,b:box int):int {}\n fn g():box int\n{let k:int; k=f(k,ret); {let l:int; l=1;} ret=g(); }\n fn h(x:&int):&int {ret=h(x);}{let z:box int; z=g(); let y:&int; y=h(y);}",
			[]string{
				"1:1 let 2 >1", "1:28 dead 1 >2", "1:28 dead 0 >3", "1:28 end 0 v2 >-1",
				"2:2 let 3 >5", "3:2 let 6 >6", "3:13 assign 6 call v6, v3 >7", "3:26 let 7 >8", "3:37 assign 7 use 1 >9", "3:41 dead 7 >10", "3:43 assign 3 call f1 >11", "3:52 dead 6 >12", "3:52 end 0 v3 >-1",
				"4:2 let 5 >14", "4:21 assign 5 call f2 v4 >15", "4:30 dead 4 >16", "4:30 end 0 v5 >-1",
				"4:32 let 8 >18", "4:47 assign 8 call f1 >19", "4:54 let 9 >20", "4:66 assign 9 call f2 v9 >21", "4:73 dead 9 >22", "4:73 dead 8 >23", "4:74 end 0 >-1",
			},
			[]string{"a i ", "b bi ", "ret i ", "ret bi ", "x ri a", "ret ri b", "k i ", "l i ", "z bi ", "y ri "},
			[]string{"f 0..3 param 0 n 2 ret 2 lives 0", "g 4..12 param 3 n 0 ret 3 lives 0", "h 13..16 param 4 n 1 ret 5 lives 2", " 17..23 param 0 n 0 ret -1 lives 0"}},
		// A function's last statement is a loop: behind it come the ends of its variables.
		{"fn f(a:int):int {while a {ret=1;}}{let x:int; if x {out x;} else {while 0 {x=f(x);}}}",
			[]string{
				"1:1 let 1 >1", "1:18 test 0 v0 >2 /3", "1:27 assign 1 use 1 >1", "1:34 dead 0 >4", "1:34 end 0 v1 >-1",
				"1:36 let 2 >6", "1:47 test 0 v2 >7 /8", "1:53 out 0 v2 >10", "1:67 test 0 0 >9 /10", "1:76 assign 2 call v2 >8", "1:85 dead 2 >11", "1:86 end 0 >-1",
			},
			[]string{"a i ", "ret i ", "x i "},
			[]string{"f 0..4 param 0 n 1 ret 1 lives 0", " 5..11 param 0 n 0 ret -1 lives 0"}},
	} {
		p, l, f := graph(t, c.text)
		compare(t, c.text, "point", showPoints(p), c.points)
		compare(t, c.text, "variable", showLocals(l), c.locals)
		compare(t, c.text, "function", showFuncs(f), c.funcs)
	}
}

// tree: a statement by chance, of which both a text and the points that P9 asks for are made.
type tree struct {
	kind        string // let, assign, out, drop, if, ifelse, while, block
	body, other []tree
	variable    int
}

// plant: statements by chance; every let declares the next variable.
func plant(d *dice, deep int, vars *int) []tree {
	var list []tree
	for n := d.below(4); n > 0; n-- {
		k := tree{kind: []string{"let", "assign", "out", "drop", "if", "ifelse", "while", "block"}[d.below(8)]}
		if k.kind == "let" {
			k.variable = *vars
			*vars++
		}
		if deep > 0 && (k.kind == "if" || k.kind == "ifelse" || k.kind == "while" || k.kind == "block") {
			k.body = plant(d, deep-1, vars)
			if k.kind == "ifelse" {
				k.other = plant(d, deep-1, vars)
			}
		}
		list = append(list, k)
	}
	return list
}

func write(list []tree) string {
	s := "{"
	for _, k := range list {
		switch k.kind {
		case "let":
			s += fmt.Sprintf("let v%d:int;", k.variable)
		case "assign":
			s += "g=1;"
		case "out":
			s += "out g;"
		case "drop":
			s += "drop g;"
		case "if":
			s += "if ?" + write(k.body)
		case "ifelse":
			s += "if ?" + write(k.body) + "else" + write(k.other)
		case "while":
			s += "while ?" + write(k.body)
		case "block":
			s += write(k.body)
		}
	}
	return s + "}"
}

func lets(list []tree) []int {
	var out []int
	for _, k := range list {
		if k.kind == "let" {
			out = append([]int{k.variable}, out...)
		}
	}
	return out
}

// size: how many points a block has.
func size(list []tree) int {
	n := 0
	for _, k := range list {
		n += sizeOf(k)
	}
	return n + len(lets(list))
}

func sizeOf(k tree) int {
	switch k.kind {
	case "if", "ifelse", "while":
		return 1 + size(k.body) + size(k.other)
	case "block":
		return size(k.body)
	}
	return 1
}

// want: the points of a block that begins at a number, if something is to be done behind it at another.
func want(list []tree, at, behind int) []string {
	var out []string
	end := at + size(list)
	// A way that leads to the block's end leads behind it.
	follow := func(n int) int {
		if n == end {
			return behind
		}
		return n
	}
	for _, k := range list {
		next := follow(at + sizeOf(k))
		enter := at + 1
		switch k.kind {
		case "let":
			out = append(out, fmt.Sprintf("let %d >%d", k.variable+1, next))
		case "assign":
			out = append(out, fmt.Sprintf("assign 0 use 1 >%d", next))
		case "out":
			out = append(out, fmt.Sprintf("out 0 v0 >%d", next))
		case "drop":
			out = append(out, fmt.Sprintf("drop 0 >%d", next))
		case "if", "ifelse":
			other := enter + size(k.body)
			otherwise := other
			if size(k.body) == 0 {
				enter = next
			}
			if size(k.other) == 0 {
				otherwise = next
			}
			out = append(out, fmt.Sprintf("test 0 ? >%d /%d", enter, otherwise))
			out = append(out, want(k.body, at+1, next)...)
			out = append(out, want(k.other, other, next)...)
		case "while":
			if size(k.body) == 0 {
				enter = at
			}
			out = append(out, fmt.Sprintf("test 0 ? >%d /%d", enter, next))
			out = append(out, want(k.body, at+1, at)...)
		case "block":
			out = append(out, want(k.body, at, next)...)
		}
		at += sizeOf(k)
	}
	for _, v := range lets(list) {
		at++
		out = append(out, fmt.Sprintf("dead %d >%d", v+1, follow(at)))
	}
	return out
}

// TestP9Ways: of blocks in blocks by chance the points and their ways out.
func TestP9Ways(t *testing.T) {
	d := &dice{4}
	for round, done := 0, 0; round < 6000; round++ {
		vars := 0
		list := plant(d, 4, &vars)
		text := "{let g:int;" + strings.TrimPrefix(write(list), "{")
		if len(text) > api.MaxText {
			continue
		}
		done++
		p, l, _ := graph(t, text)
		n := 1 + size(list)
		points := append([]string{"let 0 >1"}, want(list, 1, n)...)
		points = append(points, fmt.Sprintf("dead 0 >%d", n+1), "end 0 >-1")
		var got []string
		for _, q := range p {
			_, rest, _ := strings.Cut(showPoint(q), " ")
			got = append(got, rest)
		}
		compare(t, text, "point", got, points)
		if len(l) != vars+1 {
			t.Errorf("P10: Graph(%q): %d variables, want %d", text, len(l), vars+1)
		}
		if t.Failed() {
			return
		}
		if round == 5999 && done < 2000 {
			t.Errorf("only %d texts were short enough", done)
		}
	}
}

// TestP9Spots: a point's place is that of its statement's first word.
func TestP9Spots(t *testing.T) {
	text := "fn\tf ( a : int )\n: int # of f\n { ( ret ) = a ; }\n\n{ let\nx : [ box int , int ] ;\n ( ( x ) ) . 1 = 3 ;\n* x . 0 = f ( x . 1 ) ; drop\nx . 0 ;\nwhile\n? { if x . 1 { } else {\n} out\nx . 1 ; } # the end\n } # of it\n "
	p, _, _ := graph(t, text)
	compare(t, text, "point", showPoints(p), []string{
		"1:1 let 1 >1", "3:4 assign 1 use v0 >2", "3:18 dead 0 >3", "3:18 end 0 v1 >-1",
		"5:3 let 2 >5", "7:2 assign 2.1 use 3 >6", "8:1 assign 2.0* call v2.1 >7", "8:25 drop 2.0 >8",
		"10:1 test 0 ? >9 /11", "11:5 test 0 v2.1 >10 /10", "12:3 out 0 v2.1 >8", "14:2 dead 2 >12", "15:2 end 0 >-1",
	})
}

// TestP10Variables: all parameters and results stand ahead of all lets, whatever the functions' order.
func TestP10Variables(t *testing.T) {
	text := "fn a(p:&'x int,q:[&'y mut &int,&'x int]):box &'y int {let u:int; if ? {let w:& &mut int;} let w:int;} fn b():int {let u:box box int;} fn c(p:int):& &'p int {}{let u:[int,[&int,int]]; {let v:&mut int;} let v:int;}"
	_, l, f := graph(t, text)
	compare(t, text, "variable", showLocals(l), []string{
		"p ri a", "q pmriri bca", "ret bri b", "ret i ", "p i ", "ret rri ab",
		"u i ", "w rmi ", "w i ", "u bbi ", "u piprii ", "v mi ", "v i ",
	})
	compare(t, text, "function", showFuncs(f), []string{
		"a 0..10 param 0 n 2 ret 2 lives 3", "b 11..14 param 3 n 0 ret 3 lives 0", "c 15..17 param 4 n 1 ret 5 lives 2", " 18..24 param 0 n 0 ret -1 lives 0",
	})
}
