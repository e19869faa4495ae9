package memory

// loan: the cells that are lent, whether they are to be written, and the loan by which they were reached.
type loan struct {
	area    Area
	written bool
	parent  int
	cut     bool
}

// Lend touches an area, makes a loan of it and tells its number; false: there are too many already, and nothing was touched.
func (s *Store) Lend(a Area, by int, written bool) (int, bool) {
	if s.lent < 0 || s.lent >= len(s.loans) {
		return 0, false
	}
	// A parent is older than its child: leads counts on it.
	if !s.lends(by) {
		by = None
	}
	s.Touch(a, by, written)
	s.loans[s.lent] = loan{area: a, written: written, parent: by}
	s.lent++
	return s.lent - 1, true
}

// Touch cuts the loans that do not bear that an area is read, or written, by a loan.
func (s *Store) Touch(a Area, by int, written bool) {
	for i := 0; i < s.lent && i < len(s.loans); i++ {
		bears := !written && !s.loans[i].written
		if !bears && overlap(s.loans[i].area, a) && !s.leads(i, by) {
			s.loans[i].cut = true
		}
	}
}

// Cut tells whether a loan is cut.
func (s *Store) Cut(n int) bool {
	return s.lends(n) && s.loans[n].cut
}

// leads tells whether a loan is the other one, or a parent of it, or a parent's parent.
func (s *Store) leads(n, by int) bool {
	for s.lends(by) && by > n {
		by = s.loans[by].parent
	}
	return by == n
}

func (s *Store) lends(n int) bool {
	return n >= 0 && n < s.lent && n < len(s.loans)
}

func overlap(a, b Area) bool {
	return a.Object == b.Object && a.First < b.First+b.Count && b.First < a.First+a.Count
}
