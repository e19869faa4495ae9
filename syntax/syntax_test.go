package syntax

import (
	"testing"

	"borrowing/api"
	"borrowing/words"
)

func TestFault(t *testing.T) {
	for _, c := range []struct {
		text      string
		line, col int
	}{{"", 1, 1}, {"{\n", 2, 1}, {"{let x int;}", 1, 8}, {"{x=f(1,2,3);}", 1, 9}, {"{}}", 1, 3}} {
		p, at, ok := Parse(c.text)
		if ok || at != (words.Spot{Line: c.line, Col: c.col}) || p.Functions != nil || p.Body.List != nil {
			t.Errorf("Parse(%q): %+v, %+v, %t", c.text, p, at, ok)
		}
	}
}

func TestPlaceInTheOrderOfItsSteps(t *testing.T) {
	p, _, ok := Parse("{*(**x.0).1=1;}")
	if !ok || len(p.Body.List) != 1 {
		t.Fatal("no program")
	}
	place := p.Body.List[0].Place
	steps := ""
	for _, s := range place.Steps {
		steps += s.Text
	}
	if place.Name.Text != "x" || place.At.Col != 2 || place.Name.At.Col != 6 || steps != "0**1*" {
		t.Errorf("the place is %+v", place)
	}
}

func TestValues(t *testing.T) {
	for _, c := range []struct {
		value        string
		kind, one, b int
		callee       string
	}{
		{"1", api.Use, api.Number, api.None, ""},
		{"?", api.Use, api.Input, api.None, ""},
		{"y", api.Use, api.Place, api.None, ""},
		{"&y", api.Ref, api.Place, api.None, ""},
		{"&mut *y", api.Mut, api.Place, api.None, ""},
		{"box 1", api.Box, api.Number, api.None, ""},
		{"[y,?]", api.Pair, api.Place, api.Input, ""},
		{"1+y", api.Sum, api.Number, api.Place, ""},
		{"f()", api.Call, api.None, api.None, "f"},
		{"f(?)", api.Call, api.Input, api.None, "f"},
		{"f(y,2)", api.Call, api.Place, api.Number, "f"},
		{"(f)(y)", api.Call, api.Place, api.None, ""},
		{"f.0()", api.Call, api.None, api.None, ""},
		{"*f()", api.Call, api.None, api.None, ""},
		{"3()", api.Call, api.None, api.None, ""},
	} {
		p, _, ok := Parse("{x=" + c.value + ";}")
		if !ok {
			t.Errorf("%s is no value", c.value)
			continue
		}
		v := p.Body.List[0].Value
		if v.Kind != c.kind || v.A.Kind != c.one || v.B.Kind != c.b || v.Callee != c.callee || v.At.Col != 4 {
			t.Errorf("%s: %+v", c.value, v)
		}
	}
}

func TestSignature(t *testing.T) {
	p, _, ok := Parse("fn f(a:&'a mut [& int,box &'b int]):int {}{}")
	if !ok || len(p.Functions) != 1 || len(p.Functions[0].Params) != 1 {
		t.Fatal("no program")
	}
	kind := p.Functions[0].Params[0].Type
	if kind.Signs != "mpribri" || len(kind.Lives) != 3 || kind.Lives[0] != "'a" || kind.Lives[1] != "" || kind.Lives[2] != "'b" {
		t.Errorf("the type is %+v", kind)
	}
}
