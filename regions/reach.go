package regions

// near tells of each region by how many inclusions, at the least, one region comes to it (-1: it does not).
func (m *Map) near(from int) []int {
	far := make([]int, m.count)
	for r := 0; r < len(far); r++ {
		far[r] = -1
	}
	if from < 0 || from >= len(far) {
		return far
	}
	far[from] = 0
	queue := make([]int, 0, len(far))
	queue = append(queue, from)
	for at := 0; at < len(queue); at++ {
		region := queue[at]
		for k := 0; k < len(m.outgoing[region]); k++ {
			to := m.outgoing[region][k]
			if far[to] < 0 {
				far[to] = far[region] + 1
				queue = append(queue, to)
			}
		}
	}
	return far
}

// Outlives tells the points by whose inclusions a lifetime of a function comes to another, the last first, and the numbers of the two (nil, 0, 0: none does): of the first such function its first two.
func (m *Map) Outlives() ([]int, int, int) {
	for f := 0; f < len(m.lives); f++ {
		first := m.lives[f]
		last := first + m.program.Funcs[f].Lives
		for a := first; a < last; a++ {
			far := m.near(a)
			for b := first; b < last; b++ {
				if b != a && far[b] > 0 {
					return m.chain(far, b), a - first, b - first
				}
			}
		}
	}
	return nil, 0, 0
}

// chain tells the points by whose inclusions a region was come to, the last first.
func (m *Map) chain(far []int, to int) []int {
	if to < 0 || to >= len(far) || far[to] <= 0 {
		return nil
	}
	points := make([]int, far[to])
	for k := 0; k < len(points); k++ {
		last := m.lastOf(far, to)
		points[k] = last.point
		to = last.from
	}
	return points
}

// lastOf tells the first inclusion that lays a region into another one from a step nearer.
func (m *Map) lastOf(far []int, to int) inclusion {
	for i := 0; i < len(m.inclusions); i++ {
		at := m.inclusions[i]
		if at.to == to && far[at.from] >= 0 && far[at.from] == far[to]-1 {
			return at
		}
	}
	return inclusion{from: to, to: to, point: -1}
}

// made tells the region of the reference that a loan makes (-1: it makes none).
func (m *Map) made(loan int) int {
	if loan < 0 || loan >= len(m.program.Points) {
		return -1
	}
	p := m.program.Points[loan]
	return head(m.at(m.program.Place(p.DVar, p.DProj)))
}

// nearest tells of the regions in a variable's type the one to which the fewest inclusions lead (-1: they lead to none).
func (m *Map) nearest(far []int, variable int) int {
	found := -1
	if variable < 0 || variable >= len(m.variables) {
		return found
	}
	for k := 0; k < len(m.variables[variable]); k++ {
		region := m.variables[variable][k]
		if far[region] >= 0 && (found < 0 || far[region] < far[found]) {
			found = region
		}
	}
	return found
}

// Holders tells of each variable whether its type has a region in which the loan of a point is.
func (m *Map) Holders(loan int) []bool {
	far := m.near(m.made(loan))
	holders := make([]bool, len(m.variables))
	for v := 0; v < len(holders); v++ {
		holders[v] = m.nearest(far, v) >= 0
	}
	return holders
}

// Chain tells the points by whose inclusions the loan of a point comes to a reference in a variable's type, the last first (nil: it is the variable's own).
func (m *Map) Chain(loan, variable int) []int {
	far := m.near(m.made(loan))
	return m.chain(far, m.nearest(far, variable))
}
