package promises

import (
	"fmt"
	"strings"
	"testing"

	"borrowing/api"
	"borrowing/borrowing"
)

func TestP4Faults(t *testing.T) {
	for _, text := range []string{
		// program
		"@", "@}", "@let x:int;", "@x=1;", "@;", "@int", "@(", "{@", "{}@}", "{}@{}", "{}@;", "{}@fn f():int {}", "{}@x",
		// function
		"fn@", "fn @(", "fn f@", "fn f@:int {}{}", "fn f(@", "fn f(@,", "fn f(@int", "fn f(@1", "fn f(a@)", "fn f(a@,", "fn f(a:@)", "fn f(a:int@;", "fn f(a:int@",
		"fn f(a:int,@)", "fn f(a:int,b@)", "fn f(a:int,b:int@,c:int):int {}{}", "fn f()@{}", "fn f()@int {}{}", "fn f():@{}", "fn f():int@;", "fn f():int@", "fn f():int {}@", "fn f():int {}@x", "fn f():int {} fn g():int {}@",
		// block, statement
		"{@;}", "{@:}", "{@1=1;}", "{@?=1;}", "{@&x=1;}", "{@[}", "{@fn f():int {}}", "{@else {}}", "{@mut x=1;}", "{@box x=1;}", "{@int}", "{{}@",
		// let
		"{let@", "{let @:int;}", "{let @*x:int;}", "{let x@=1;}", "{let x@;}", "{let x:@;}", "{let x:int@}", "{let x:int@=1;}", "{let x:int@,y:int;}",
		// place = value
		"{x@;}", "{x@}", "{x@(1);}", "{x@+1=1;}", "{x@:int;}", "{x=@;}", "{x=@}", "{x=@=1;}", "{x=1@}", "{x=1@,2;}", "{x=y@=z;}", "{x=@{};}", "{x=@let;}", "{x=@mut y;}", "{x=@int;}",
		// drop, out
		"{drop @;}", "{drop @1;}", "{drop @?;}", "{drop @&x;}", "{drop x@}", "{drop x@=1;}", "{drop x@+1;}", "{out @;}", "{out @5;}", "{out @?;}", "{out x@}", "{out x@+1;}", "{out x@,y;}", "{out @box x;}",
		// if, while
		"{if @{}}", "{if x@;}", "{if x @1 {}}", "{if x@=1 {}}", "{if x@+1 {}}", "{if @&x {}}", "{if @box x {}}", "{if x@(1) {}}", "{if 1 {}@;}", "{if 1 {} else@;}", "{if 1 {} else @if 1 {}}", "{if 1 {} else {} @else {}}", "{if 1 @x=1;}", "{while @{}}", "{while x@;}", "{while ? @}", "{while ? {} @else {}}", "{while @[1,2] {}}",
		// values
		"{x=&@1;}", "{x=&@;}", "{x=&@?;}", "{x=&@&y;}", "{x=&@box y;}", "{x=&mut@;}", "{x=&mut @1;}", "{x=&mut @mut y;}", "{x=&y@+1;}", "{x=&y@(1);}", "{x=&@'a y;}",
		"{x=box@;}", "{x=box @box 1;}", "{x=box @&y;}", "{x=box @[1,2];}", "{x=box 1@+2;}", "{x=box f@(1);}",
		"{x=[@];}", "{x=[1@];}", "{x=[1,@];}", "{x=[1,2@,3];}", "{x=[1,2@;}", "{x=[@[1,2],3];}", "{x=[@&y,1];}", "{x=[1@+2,3];}", "{x=[1,2]@+1;}", "{x=[1,2]@.0;}",
		"{x=1+@;}", "{x=1+2@+3;}", "{x=1+@&y;}", "{x=1+f@(1);}", "{x=@+1;}",
		"{x=f(@;}", "{x=f(@,1);}", "{x=f(1@;}", "{x=f(1,@);}", "{x=f(1,2@,3);}", "{x=f(1@+2);}", "{x=f(@&y);}", "{x=f(@box 1);}", "{x=f(g@(1));}", "{x=f(1)@+2;}", "{x=f(1)@(2);}", "{x=f(1)@.0;}", "{x=f(1 @2);}",
		// places
		"{*@=1;}", "{*@1=1;}", "{*@&x=1;}", "{**@;}", "{(@)=1;}", "{(x@=1;}", "{(x@+1)=1;}", "{((x)@=1;}", "{(@1)=1;}", "{x.@=1;}", "{x.@y=1;}", "{x.@.0=1;}", "{x.@*y=1;}", "{x.0 @1=1;}", "{(x).@(y)=1;}", "{x @y=1;}", "{x.0.@=1;}", "{x@*=1;}",
		// types and sigs
		"{let x:@x;}", "{let x:box@;}", "{let x:box @mut int;}", "{let x:&@;}", "{let x:&mut@;}", "{let x:&mut @mut int;}", "{let x:@mut int;}", "{let x:[@];}", "{let x:[int@];}", "{let x:[int,@];}", "{let x:[int,int@;}", "{let x:[int,int@,int];}", "{let x:int @int;}", "{let x:@(int);}", "{let x:@*int;}", "{let x:@1;}",
		"{let x:&@'a int;}", "{let x:&@'a mut int;}", "{let x:box &@'a int;}", "{let x:[int,&@'a int];}", "{let x:@'a int;}",
		"fn f(x:@'a int):int {}{}", "fn f(x:& mut @'a int):int {}{}", "fn f(x:box @'a int):int {}{}", "fn f(x:&'a @'b int):int {}{}", "fn f():@'a int {}{}", "fn f(x:&'a@):int {}{}", "fn f(x:&'a mut@):int {}{}", "fn f@'a():int {}{}", "fn f(x:[int @'a,int]):int {}{}",
		"fn f():int {let x:&@'a int;}{}",
	} {
		wantRule(t, api.RParse, text)
	}
}

// valid: texts that are programs, together of every rule of the grammar.
var valid = []string{
	"{ }",
	"{ { } { { } } }",
	"fn f ( ) : int { } fn g ( a : int ) : box int { } fn h ( a : & int , b : & mut int ) : [ int , int ] { } { }",
	"fn f ( a : & 'a int , b : & 'b mut [ & 'c int , box & int ] ) : & 'a mut box & 'b int { ret = a ; } { }",
	"{ let x : int ; let y : box box int ; let z : [ & int , [ & mut int , box int ] ] ; }",
	"{ x = 1 ; x = ? ; x = y ; * x = * y ; x . 0 = y . 1 ; ( x ) = ( y ) ; ( * x ) . 0 . 1 = ( * * y ) . 1 ; }",
	"{ x = & y ; x = & mut y ; x = & * y . 0 ; x = & mut ( ( y ) ) . 7 ; }",
	"{ x = box 1 ; x = box ? ; x = box y ; x = [ 1 , ? ] ; x = [ * y , ( z ) . 0 ] ; }",
	"{ x = 1 + 2 ; x = ? + ? ; x = y . 0 + * z ; x = ( y ) + ( z ) ; }",
	"{ x = f ( ) ; x = f ( 1 ) ; x = f ( y , ? ) ; x = 3 ( ) ; x = ? ( 1 ) ; x = ( f ) ( * y . 0 ) ; x = f . 1 ( 2 , 3 ) ; x = * f ( ) ; }",
	"{ drop x ; drop * x . 0 ; drop ( x ) . 1 ; out x ; out ( * x ) . 9999 ; }",
	"{ if 1 { } if ? { } else { } if x . 0 { out x ; } else { if ( * x ) { } } while 0 { } while * x { while ? { drop x ; } } }",
}

// TestP4Prefixes: a program goes on with each of its words: cut off behind one, what is wrong is the end; and what stands there instead, if no program has it.
func TestP4Prefixes(t *testing.T) {
	for _, text := range valid {
		_, _, _, v := borrowing.Graph(text)
		if v.Rule == api.RParse || v.Rule == api.RLong {
			t.Errorf("P4: Graph(%q): %s", text, showVerdict(v))
		}
		list := strings.Fields(text)
		for n := range list {
			ahead := strings.Join(list[:n], " ")
			rest := " " + strings.Join(list[n:], " ")
			wantRule(t, api.RParse, ahead+"@")
			wantRule(t, api.RParse, ahead+" @$"+rest)
			wantRule(t, api.RParse, ahead+" @toolongname"+rest)
			wantRule(t, api.RParse, ahead+" @12345"+rest)
			wantRule(t, api.RParse, ahead+" @'"+rest)
		}
		wantRule(t, api.RParse, text+" @$")
		wantRule(t, api.RParse, text+" @x")
	}
}

// The grammar of P4 as it stands there, with what may be left out or be repeated as rules of their own.
var rules = map[string][]string{
	"program":   {"functions block END"},
	"functions": {"", "function functions"},
	"function":  {"fn NAME ( params ) : sig block"},
	"params":    {"", "param param2"},
	"param2":    {"", ", param"},
	"param":     {"NAME : sig"},
	"block":     {"{ list }"},
	"list":      {"", "statement list"},
	"statement": {"let NAME : type ;", "place = value ;", "drop place ;", "out place ;", "if operand block other", "while operand block", "block"},
	"other":     {"", "else block"},
	"value":     {"& mut2 place", "box operand", "[ operand , operand ]", "operand rest"},
	"mut2":      {"", "mut"},
	"rest":      {"", "+ operand", "( operands )"},
	"operands":  {"", "operand operand2"},
	"operand2":  {"", ", operand"},
	"operand":   {"NUMBER", "?", "place"},
	"place":     {"* place", "NAME fields", "( place ) fields"},
	"fields":    {"", ". NUMBER fields"},
	"type":      {"int", "box type", "& mut2 type", "[ type , type ]"},
	"sig":       {"int", "box sig", "& life mut2 sig", "[ sig , sig ]"},
	"life":      {"", "LIFE"},
}

// open: all stacks of which the first sign is no rule, that come from these by taking rules apart.
func open(stacks []string) []string {
	seen := map[string]bool{}
	var out []string
	for len(stacks) > 0 {
		s := strings.TrimSpace(stacks[0])
		stacks = stacks[1:]
		head, tail, _ := strings.Cut(s, " ")
		ways, isRule := rules[head]
		if seen[s] {
			continue
		}
		seen[s] = true
		if !isRule {
			out = append(out, s)
			continue
		}
		for _, way := range ways {
			stacks = append(stacks, way+" "+tail)
		}
	}
	return out
}

func kindOfWord(word string) string {
	switch c := word[0]; {
	case word == "END":
		return "END"
	case c >= '0' && c <= '9':
		return "NUMBER"
	case c == '\'':
		return "LIFE"
	case c >= 'a' && c <= 'z':
		for _, k := range keywords {
			if k == word {
				return k
			}
		}
		return "NAME"
	}
	return word
}

// firstWrong: which word is the first with which no program goes on (-1: none).
func firstWrong(list []string) int {
	stacks := open([]string{"program"})
	for i, word := range append(append([]string(nil), list...), "END") {
		var next []string
		for _, s := range stacks {
			head, tail, _ := strings.Cut(s, " ")
			if head == kindOfWord(word) {
				next = append(next, tail)
			}
		}
		if len(next) == 0 {
			return i
		}
		stacks = open(next)
	}
	return -1
}

// grow: a text of a rule by chance, word by word, that gets short as the room does.
func grow(d *dice, rule string, room *int) []string {
	ways, isRule := rules[rule]
	if !isRule {
		*room--
		switch rule {
		case "NAME":
			return []string{[]string{"x", "y", "f", "abcdefgh"}[d.below(4)]}
		case "NUMBER":
			return []string{[]string{"0", "1", "12", "9999"}[d.below(4)]}
		case "LIFE":
			return []string{[]string{"'a", "'b", "'abcdefg"}[d.below(3)]}
		case "END":
			return nil
		}
		return []string{rule}
	}
	way := ways[d.below(len(ways))]
	if *room < 0 {
		way = map[string]string{"statement": "out place ;", "place": "NAME fields", "value": "operand rest"}[rule]
		if way == "" {
			way = ways[0]
		}
	}
	var out []string
	for _, part := range strings.Fields(way) {
		out = append(out, grow(d, part, room)...)
	}
	return out
}

// TestP4Grammar: texts by chance, and texts with words changed by chance, are judged as the grammar says, word by word.
func TestP4Grammar(t *testing.T) {
	others := append([]string{"&", "*", "(", ")", "[", "]", "{", "}", ";", ":", "=", "+", ",", ".", "?", "x", "f", "ret", "0", "1", "9999", "'a"}, keywords...)
	d := &dice{3}
	for round := 0; round < 30000; round++ {
		room := d.below(60)
		list := grow(d, "program", &room)
		for n := d.below(3); n > 0; n-- {
			at := d.below(len(list) + 1)
			word := others[d.below(len(others))]
			switch {
			case d.below(3) == 0 || at == len(list):
				list = append(list[:at:at], append([]string{word}, list[at:]...)...)
			case d.below(2) == 0:
				list = append(list[:at:at], append([]string{word}, list[at+1:]...)...)
			default:
				list = append(list[:at:at], list[at+1:]...)
			}
			if len(list) == 0 {
				break
			}
		}
		text := strings.Join(list, " ")
		if len(text) > api.MaxText {
			continue
		}
		_, _, _, v := borrowing.Graph(text)
		got, want := fmt.Sprintf("%d:%d", v.Line, v.Col), "none"
		if v.Rule != api.RParse {
			got = "none"
		}
		if wrong := firstWrong(list); wrong >= 0 {
			col := 1
			for _, word := range list[:wrong] {
				col += len(word) + 1
			}
			if wrong == len(list) && wrong > 0 {
				col--
			}
			want = fmt.Sprintf("1:%d", col)
		}
		if got != want {
			t.Fatalf("P4: Graph(%q): RParse %s, want %s", text, got, want)
		}
	}
}
