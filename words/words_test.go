package words

import "testing"

func TestSplit(t *testing.T) {
	text := "fn f1(x:&'a int)# 'b $\n\t{x=0042;} _ 12345 ' abcdefghi"
	want := []Word{
		{Fixed, "fn", Spot{1, 1}}, {Name, "f1", Spot{1, 4}}, {Fixed, "(", Spot{1, 6}}, {Name, "x", Spot{1, 7}}, {Fixed, ":", Spot{1, 8}},
		{Fixed, "&", Spot{1, 9}}, {Life, "'a", Spot{1, 10}}, {Fixed, "int", Spot{1, 13}}, {Fixed, ")", Spot{1, 16}},
		{Fixed, "{", Spot{2, 2}}, {Name, "x", Spot{2, 3}}, {Fixed, "=", Spot{2, 4}}, {Number, "0042", Spot{2, 5}}, {Fixed, ";", Spot{2, 9}}, {Fixed, "}", Spot{2, 10}},
		{Bad, "_", Spot{2, 12}}, {Bad, "12345", Spot{2, 14}}, {Bad, "'", Spot{2, 20}}, {Bad, "abcdefghi", Spot{2, 22}}, {End, "", Spot{2, 31}},
	}
	got := Split(text)
	if len(got) != len(want) {
		t.Fatalf("Split(%q): %+v", text, got)
	}
	for i := range got {
		if got[i] != want[i] {
			t.Errorf("Split(%q): word %d is %+v, want %+v", text, i, got[i], want[i])
		}
	}
}

func TestSplitOfNothing(t *testing.T) {
	for text, at := range map[string]Spot{"": {1, 1}, " ": {1, 2}, "\n": {2, 1}, "#\n#": {2, 2}} {
		got := Split(text)
		if len(got) != 1 || got[0] != (Word{End, "", at}) {
			t.Errorf("Split(%q): %+v, want the end at %+v", text, got, at)
		}
	}
}
