package regions

// near tells of each region by how many inclusions, at the least, one region comes to it (-1: it does not).
func (m *Map) near(from int) []int {
	far := make([]int, m.count)
	for r := 0; r < len(far); r++ {
		far[r] = -1
	}
	if from < 0 || from >= len(far) {
		return far
	}
	far[from] = 0
	queue := make([]int, 0, len(far))
	queue = append(queue, from)
	for at := 0; at < len(queue); at++ {
		region := queue[at]
		for k := 0; k < len(m.outgoing[region]); k++ {
			to := m.outgoing[region][k]
			if far[to] < 0 {
				far[to] = far[region] + 1
				queue = append(queue, to)
			}
		}
	}
	return far
}

// Outlives tells the point that asks for the last inclusion by which a lifetime of a function comes to another (-1: none does): of the first such function its first two.
func (m *Map) Outlives() int {
	for f := 0; f < len(m.lives); f++ {
		first := m.lives[f]
		last := first + m.program.Funcs[f].Lives
		for a := first; a < last; a++ {
			far := m.near(a)
			for b := first; b < last; b++ {
				if b != a && far[b] > 0 {
					return m.lastPoint(far, b)
				}
			}
		}
	}
	return -1
}

// lastPoint tells the first point that lays a region into another one from a step nearer.
func (m *Map) lastPoint(far []int, to int) int {
	for i := 0; i < len(m.inclusions); i++ {
		at := m.inclusions[i]
		if at.to == to && far[at.from] >= 0 && far[at.from] == far[to]-1 {
			return at.point
		}
	}
	return -1
}

// Holders tells of each variable whether its type has a region in which the loan of a point is.
func (m *Map) Holders(loan int) []bool {
	holders := make([]bool, len(m.variables))
	if loan < 0 || loan >= len(m.program.Points) {
		return holders
	}
	p := m.program.Points[loan]
	to := m.at(m.program.Place(p.DVar, p.DProj))
	far := m.near(head(to))
	for v := 0; v < len(holders); v++ {
		for k := 0; k < len(m.variables[v]); k++ {
			if far[m.variables[v][k]] >= 0 {
				holders[v] = true
			}
		}
	}
	return holders
}
