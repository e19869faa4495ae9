package promises

import (
	"strings"
	"testing"

	"borrowing/api"
)

var keywords = []string{"let", "drop", "out", "if", "else", "while", "box", "mut", "int", "fn"}

func TestP3Names(t *testing.T) {
	for _, name := range []string{"a", "Z", "z9", "abcdefgh", "ABCDEFGH", "a1234567", "ret", "Let", "lets", "int1", "INT", "fnn", "i", "boxint", "x0y0"} {
		_, l, _ := graph(t, "{let "+name+":int; "+name+"=1;}")
		if len(l) != 1 || l[0].Name != name {
			t.Errorf("P3: the name %s: variables %q", name, showLocals(l))
		}
	}
	for _, text := range []string{
		"{let @abcdefghi:int;}", "{let @a12345678:int;}", "{let a@_b:int;}", "{let @_:int;}",
		"{let @1a:int;}", "{let a@\xc3\xa4:int;}", "{let @\xc3\xa4:int;}", "{let @9:int;}",
		"{let a:int; @aaaaaaaaa=1;}", "{let a:int; a=@aaaaaaaaa;}", "fn @abcdefghi():int {}{}",
		"fn f(@abcdefghi:int):int {}{}", "{let a@-b:int;}", "{let a@$:int;}",
	} {
		wantRule(t, api.RParse, text)
	}
}

func TestP3Keywords(t *testing.T) {
	for _, word := range keywords {
		wantRule(t, api.RParse, "{let @"+word+":int;}")
		wantRule(t, api.RParse, "fn @"+word+"():int {ret=1;}{}")
		wantRule(t, api.RParse, "fn f(@"+word+":int):int {ret=1;}{}")
		wantRule(t, api.RParse, "{out @"+word+";}")
		// A word is as long as it can be: with a letter more it is a name.
		graph(t, "{let "+word+"s:int; "+word+"s=1;}")
		graph(t, "{let "+word+"0:int; "+word+"0=1;}")
	}
	wantRule(t, api.RParse, "{letx@:int;}")
	wantRule(t, api.RParse, "{let x:@boxint;}")
	wantRule(t, api.RParse, "{let x:&@mutint;}")
	wantRule(t, api.RParse, "{let x:@Int;}")
	wantRule(t, api.RParse, "@fnf():int {}{}")
	wantRule(t, api.RParse, "{if ? {} elsex@{}}")
}

func TestP3Numbers(t *testing.T) {
	for _, c := range []struct {
		word string
		n    int
	}{{"0", 0}, {"7", 7}, {"10", 10}, {"9999", 9999}, {"0000", 0}, {"0042", 42}, {"1234", 1234}} {
		p, _, _ := graph(t, "{let a:int; a="+c.word+";}")
		if p[1].A != (api.Opnd{Kind: api.Number, N: c.n}) {
			t.Errorf("P3, P9: the number %s: %s", c.word, showPoint(p[1]))
		}
	}
	for _, text := range []string{
		"{let a:int; a=@12345;}", "{let a:int; a=@00000;}", "{let a:int; a=1@a;}", "{let a:int; a=1234@a5;}",
		"{let a:int; a=@-1;}", "{let a:int; a=1 @2;}", "{let a:[int,int]; a.@00000=1;}",
		"{let a:int; a=1+@99999;}", "{if @12345 {}}", "{let a:int; a=@\xd9\xa1;}",
	} {
		wantRule(t, api.RParse, text)
	}
}

func TestP3Lifetimes(t *testing.T) {
	for _, life := range []string{"'a", "'Z", "'0", "'9z", "'abcdefg", "'ABCDEFG", "'1234567", "'let", "'int", "'mut", "'ret"} {
		_, l, f := graph(t, "fn f(x:&"+life+" int):&"+life+" int {ret=x;}{}")
		if l[0].Life != "a" || l[1].Life != "a" || f[0].Lives != 1 {
			t.Errorf("P3, P6: the lifetime %s: %q, %q", life, showLocals(l), showFuncs(f))
		}
	}
	for _, text := range []string{
		"fn f(x:&@'abcdefgh int):int {}{}", "fn f(x:&@' int):int {}{}", "fn f(x:&@' a int):int {}{}",
		"fn f(x:&@''a int):int {}{}", "fn f(x:&'a@'b int):int {}{}", "fn f(x:&'a@' int):int {}{}",
		"fn f(x:&@'_a int):int {}{}", "fn f(x:&'a@_ int):int {}{}", "fn f(x:&@a int):int {}{}",
		"fn f(x:&'aint@):int {}{}", "{@'a=1;}", "{let @'a:int;}", "@'a{}",
	} {
		wantRule(t, api.RParse, text)
	}
	// No blank is wanted behind a lifetime where a sign follows.
	graph(t, "fn f(x:&'a[int,int]):int {ret=1;}{}")
	graph(t, "fn f(x:&'a&'b int):int {ret=1;}{}")
}

// TestP3Bytes: a byte in an otherwise empty program; only some may stand there, and some begin what does not go on.
func TestP3Bytes(t *testing.T) {
	for c := 0; c < 256; c++ {
		text := "{" + string([]byte{byte(c)}) + "}"
		switch {
		case c == ' ' || c == '\t' || c == '\n':
			graph(t, text)
		case c == '#' || c == '{':
			wantAt(t, text, api.RParse, 1, 4)
		case c == '}' || c == '*' || c == '(' || c >= 'a' && c <= 'z' || c >= 'A' && c <= 'Z':
			wantAt(t, text, api.RParse, 1, 3)
		default:
			wantAt(t, text, api.RParse, 1, 2)
		}
		// Behind # every byte may stand but the one that ends the line.
		if c != '\n' {
			graph(t, "{#"+text+"\n}")
		}
		// A byte that is in no word ends the word ahead of it, and is a fault of its own.
		if strings.IndexByte("&*()[]{};:=+,.? \t\n#", byte(c)) < 0 && c != '\'' && (c < '0' || c > '9') && (c < 'a' || c > 'z') && (c < 'A' || c > 'Z') {
			wantAt(t, "{let a"+string([]byte{byte(c)})+":int;}", api.RParse, 1, 7)
		}
	}
}

func TestP3BetweenWords(t *testing.T) {
	const text = "fn f ( x : & 'a mut [ & 'b int , int ] , y : & int ) : int { ret = * y ; } " +
		"{ let p : [ int , int ] ; p = [ 1 , ? ] ; let r : & mut int ; r = & mut p . 0 ; " +
		"if p . 1 { ( p ) . 0 = 2 + 3 ; } else { out p . 0 ; } while 0 { drop r ; } }"
	list := strings.Fields(text)
	p, l, f := graph(t, text)
	for _, between := range []string{" ", "  ", "\t", "\n", " \t\n ", "#\n", "# } { 'a \xff \r ' 99999\n", "\n#\n#\n"} {
		spaced := strings.Join(list, between)
		if len(spaced) > api.MaxText {
			spaced = spaceSome(list, between)
		}
		q, m, g := graph(t, spaced)
		compare(t, spaced, "point", withoutSpots(q), withoutSpots(p))
		compare(t, spaced, "variable", showLocals(m), showLocals(l))
		compare(t, spaced, "function", showFuncs(g), showFuncs(f))
	}
	tight := "fn f(x:&'a mut[&'b int,int],y:&int):int{ret=*y;}{let p:[int,int];p=[1,?];let r:&mut int;r=&mut p.0;if p.1{(p).0=2+3;}else{out p.0;}while 0{drop r;}}"
	q, m, g := graph(t, tight)
	compare(t, tight, "point", withoutSpots(q), withoutSpots(p))
	compare(t, tight, "variable", showLocals(m), showLocals(l))
	compare(t, tight, "function", showFuncs(g), showFuncs(f))
}

// spaceSome: the words with something else between every eighth.
func spaceSome(list []string, between string) string {
	text := list[0]
	for i, word := range list[1:] {
		if i%8 == 0 {
			text += between + word
		} else {
			text += " " + word
		}
	}
	return text
}

func TestP3Comments(t *testing.T) {
	graph(t, "#{\n{}#}")
	graph(t, "{}#")
	graph(t, "{}#\n#")
	graph(t, "{let a#:int\n:#\nint;a#=2\n=1;}")
	wantRule(t, api.RParse, "{}#\n@}")
	wantRule(t, api.RParse, "{#}@")
	wantRule(t, api.RParse, "#{}@")
	wantRule(t, api.RParse, "{let a#b\n@b:int;}")
	wantRule(t, api.RParse, "{#\r@")
	wantRule(t, api.RParse, "{#\r}\n@")
	wantRule(t, api.RParse, "{ @// }")
}

func TestP3Spots(t *testing.T) {
	for _, text := range []string{
		"@", "\n@", " @", "\t@", "{}\n\n@}", "{}\t @}", "{\n@", "{\n\n   @", "{} @$", "{}#\xc3\xa4\xc3\xa4\n @$", "{#\xc3\xa4@",
		"{\n\t\t@$}", "{let x:int;\n\n  @$ }", "\n\n\n{\n}\n@fn", "{ }@\r",
	} {
		wantRule(t, api.RParse, text)
	}
	for _, c := range []struct {
		text      string
		line, col int
	}{
		{"{}", 1, 3}, {"{} ", 1, 4}, {"{}\n", 2, 1}, {"{}\n\n  ", 3, 3}, {"{}# ab", 1, 7}, {"{}#\xc3\xa4", 1, 6}, {"{}#\n", 2, 1}, {"\t{}\t", 1, 5}, {"\n{\n}", 3, 2},
	} {
		p, _, _ := graph(t, c.text)
		if last := p[len(p)-1]; last.Line != c.line || last.Col != c.col {
			t.Errorf("P3, P9: Graph(%q): the end is at %d:%d, want %d:%d", c.text, last.Line, last.Col, c.line, c.col)
		}
	}
}

func TestP4Long(t *testing.T) {
	for _, c := range []struct {
		text string
		rule int
	}{
		{strings.Repeat(" ", 510) + "{}", api.Accept},
		{"{}" + strings.Repeat("\n", 510), api.Accept},
		{"{}#" + strings.Repeat("x", 509), api.Accept},
		{strings.Repeat(" ", 511) + "{}", api.RLong},
		{"{}" + strings.Repeat("\n", 511), api.RLong},
		{"{}#" + strings.Repeat("x", 510), api.RLong},
		{"{}#" + strings.Repeat("\xc3\xa4", 255), api.RLong},
		{strings.Repeat("$", 513), api.RLong},
		{"{x=1;}" + strings.Repeat(" ", 507), api.RLong},
		{strings.Repeat("x", 1<<22), api.RLong},
	} {
		if c.rule == api.Accept {
			graph(t, c.text)
		} else {
			wantAt(t, c.text, c.rule, 0, 0)
		}
	}
	wantAt(t, strings.Repeat("$", 512), api.RParse, 1, 1)
	wantAt(t, strings.Repeat(" ", 512), api.RParse, 1, 513)
	wantAt(t, "{x=1;}"+strings.Repeat(" ", 506), api.RName, 1, 2)
}
