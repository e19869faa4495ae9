package moves

import (
	"borrowing/paths"
	"borrowing/program"
)

// Reason tells a path from where a cell is taken away to the point that First found, and the cell's variable (nil, 0: the point finds no such cell).
func Reason(p program.Program, point int) ([]int, int) {
	t := start(p)
	// Ahead of the spread nothing is lost but what the point's own operands take away.
	_, own := t.pass(point)
	if own >= 0 {
		return []int{point}, t.owner(own)
	}
	t.spread()
	_, cell := t.pass(point)
	if cell < 0 {
		return nil, 0
	}
	taking := t.losing(cell, false)
	keeping := t.losing(cell, true)
	found := paths.From(p, taking, keeping)
	return found.Path(point), t.owner(cell)
}

// losing tells of each point whether it leaves a cell without a value, if that has one ahead of it or has none.
func (t *table) losing(cell int, lost bool) []bool {
	list := make([]bool, len(t.ahead))
	for i := 0; i < len(list); i++ {
		t.ahead[i].set(cell, cell+1, lost)
		behind, _ := t.pass(i)
		list[i] = behind.lacking(cell, cell+1) >= 0
	}
	return list
}

// owner tells the variable of a cell.
func (t *table) owner(cell int) int {
	v := len(t.bases) - 1
	for v > 0 && t.bases[v] > cell {
		v--
	}
	return v
}
