package types

import "testing"

func TestTypes(t *testing.T) {
	for _, c := range []struct {
		signs                  string
		cells                  int
		moved, pair, shared    bool
		first, second, pointed string
	}{
		{"i", 1, false, false, false, "", "", ""},
		{"bi", 1, true, false, false, "", "", "i"},
		{"ri", 1, false, false, true, "", "", "i"},
		{"mi", 1, true, false, false, "", "", "i"},
		{"rbpii", 1, false, false, true, "", "", "bpii"},
		{"mpii", 1, true, false, false, "", "", "pii"},
		{"pii", 2, false, true, false, "i", "i", ""},
		{"prbii", 2, false, true, false, "rbi", "i", ""},
		{"ppiibi", 3, true, true, false, "pii", "bi", ""},
		{"pirmi", 2, false, true, false, "i", "rmi", ""},
		{"pipimi", 3, true, true, false, "i", "pimi", ""},
		{"pbpiirpii", 2, true, true, false, "bpii", "rpii", ""},
		{"", 0, false, false, false, "", "", ""},
	} {
		if n := Cells(c.signs); n != c.cells {
			t.Errorf("Cells(%q): %d, want %d", c.signs, n, c.cells)
		}
		if Moved(c.signs) != c.moved || IsPair(c.signs) != c.pair || IsShared(c.signs) != c.shared {
			t.Errorf("%q: moved %t, a pair %t, shared %t", c.signs, Moved(c.signs), IsPair(c.signs), IsShared(c.signs))
		}
		if First(c.signs) != c.first || Second(c.signs) != c.second || Pointed(c.signs) != c.pointed {
			t.Errorf("%q: parts %q and %q, pointed to %q", c.signs, First(c.signs), Second(c.signs), Pointed(c.signs))
		}
	}
}

func TestReferences(t *testing.T) {
	for _, c := range []struct{ signs, below string }{
		{"i", ""}, {"bi", ""}, {"pii", ""}, {"ri", "-"}, {"mi", "-"}, {"rri", "--"}, {"mri", "-m"}, {"mmi", "-m"}, {"rmri", "--m"}, {"mrri", "-mm"},
		{"bmbri", "-m"}, {"pmriri", "-m-"}, {"primri", "--m"}, {"mpririri", "-mm-"}, {"mprimi", "-mm"}, {"rpmriri", "--m-"}, {"", ""},
	} {
		below := ""
		for _, b := range BelowMut(c.signs) {
			below += map[bool]string{true: "m", false: "-"}[b]
		}
		if below != c.below || References(c.signs) != len(c.below) {
			t.Errorf("%q: %d references, %q, want %q", c.signs, References(c.signs), below, c.below)
		}
		if IsReference(c.signs) != (c.signs != "" && (c.signs[0] == 'r' || c.signs[0] == 'm')) {
			t.Errorf("IsReference(%q): %t", c.signs, IsReference(c.signs))
		}
	}
}

func TestStep(t *testing.T) {
	for _, c := range []struct {
		signs string
		step  byte
		want  string
	}{
		{"pibi", '0', "i"}, {"pibi", '1', "bi"}, {"pibi", '*', ""}, {"bpii", '*', "pii"}, {"ri", '*', "i"}, {"mi", '*', "i"}, {"ri", '0', ""}, {"i", '*', ""}, {"i", 'x', ""}, {"", '*', ""},
	} {
		if got := Step(c.signs, c.step); got != c.want {
			t.Errorf("Step(%q, %c): %q, want %q", c.signs, c.step, got, c.want)
		}
	}
}

// TestBrokenSigns: what is no type does no harm.
func TestBrokenSigns(t *testing.T) {
	for _, signs := range []string{"p", "pi", "b", "r", "m", "pp", "ppi", "x", "\xff", "ii", "pb"} {
		Cells(signs)
		Moved(signs)
		if whole := First(signs) + Second(signs); len(whole) > len(signs) {
			t.Errorf("%q: parts %q", signs, whole)
		}
		Pointed(signs)
		if n := len(BelowMut(signs)); n != References(signs) {
			t.Errorf("%q: %d references, and %d", signs, References(signs), n)
		}
	}
}
