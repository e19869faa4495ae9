package memory

import "strconv"

// ShowObjects writes the objects, each behind a line's end (P15).
func (s *Store) ShowObjects() string {
	text := ""
	for i := 0; i < s.made && i < len(s.objects); i++ {
		text += "\n#" + strconv.Itoa(i)
		if s.objects[i].gone {
			text += " gone"
		} else {
			text += s.showCells(i)
		}
	}
	return text
}

func (s *Store) showCells(n int) string {
	whole := s.Whole(n)
	cells := s.Read(whole)
	text := ""
	for i := 0; i < len(cells); i++ {
		text += " " + showCell(cells[i])
	}
	return text
}

func showCell(c Cell) string {
	switch c.Kind {
	case Moved:
		return "<"
	case Dropped:
		return "x"
	case Number:
		return strconv.Itoa(c.N)
	case Box:
		return "#" + strconv.Itoa(c.N)
	case Ref:
		return "&" + showArea(c.At) + "/" + strconv.Itoa(c.N)
	}
	return "-"
}

func showArea(a Area) string {
	return strconv.Itoa(a.Object) + "." + strconv.Itoa(a.First) + "+" + strconv.Itoa(a.Count)
}

// ShowLoans writes the loans, each behind a line's end (P15).
func (s *Store) ShowLoans() string {
	text := ""
	for i := 0; i < s.lent && i < len(s.loans); i++ {
		text += "\n/" + strconv.Itoa(i) + showLoan(s.loans[i])
	}
	return text
}

func showLoan(l loan) string {
	text := " " + showArea(l.area) + " " + strconv.Itoa(l.parent+1)
	if l.written {
		text += " mut"
	}
	if l.cut {
		text += " cut"
	}
	return text
}
