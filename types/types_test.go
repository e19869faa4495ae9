package types

import "testing"

func TestTypes(t *testing.T) {
	for _, c := range []struct {
		signs                  string
		cells                  int
		moved, pair, shared    bool
		first, second, pointed string
	}{
		{"i", 1, false, false, false, "", "", ""},
		{"bi", 1, true, false, false, "", "", "i"},
		{"ri", 1, false, false, true, "", "", "i"},
		{"mi", 1, true, false, false, "", "", "i"},
		{"rbpii", 1, false, false, true, "", "", "bpii"},
		{"mpii", 1, true, false, false, "", "", "pii"},
		{"pii", 2, false, true, false, "i", "i", ""},
		{"prbii", 2, false, true, false, "rbi", "i", ""},
		{"ppiibi", 3, true, true, false, "pii", "bi", ""},
		{"pirmi", 2, false, true, false, "i", "rmi", ""},
		{"pipimi", 3, true, true, false, "i", "pimi", ""},
		{"pbpiirpii", 2, true, true, false, "bpii", "rpii", ""},
		{"", 0, false, false, false, "", "", ""},
	} {
		if n := Cells(c.signs); n != c.cells {
			t.Errorf("Cells(%q): %d, want %d", c.signs, n, c.cells)
		}
		if Moved(c.signs) != c.moved || IsPair(c.signs) != c.pair || IsShared(c.signs) != c.shared {
			t.Errorf("%q: moved %t, a pair %t, shared %t", c.signs, Moved(c.signs), IsPair(c.signs), IsShared(c.signs))
		}
		if First(c.signs) != c.first || Second(c.signs) != c.second || Pointed(c.signs) != c.pointed {
			t.Errorf("%q: parts %q and %q, pointed to %q", c.signs, First(c.signs), Second(c.signs), Pointed(c.signs))
		}
	}
}

// TestBrokenSigns: what is no type does no harm.
func TestBrokenSigns(t *testing.T) {
	for _, signs := range []string{"p", "pi", "b", "r", "m", "pp", "ppi", "x", "\xff", "ii", "pb"} {
		Cells(signs)
		Moved(signs)
		if whole := First(signs) + Second(signs); len(whole) > len(signs) {
			t.Errorf("%q: parts %q", signs, whole)
		}
		Pointed(signs)
	}
}
