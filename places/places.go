// Package places tells what hangs on the steps of a place and on the type of its variable (DOC.md, Words).
package places

import "borrowing/types"

// Place is a variable, the steps from it, and the variable's type.
type Place struct {
	Var   int
	Steps string
	Whole string
}

// Type tells the type of what is at the place.
func (p Place) Type() string {
	signs := p.Whole
	for i := 0; i < len(p.Steps); i++ {
		signs = types.Step(signs, p.Steps[i])
	}
	return signs
}

// Behind tells whether the place is behind a star.
func (p Place) Behind() bool {
	return p.Direct() < len(p.Steps)
}

// Direct tells how many steps stand ahead of the first star.
func (p Place) Direct() int {
	at := 0
	for at < len(p.Steps) && p.Steps[at] != '*' {
		at++
	}
	return at
}

// Cover tells the first of the variable's cells that the place covers, and how many it covers.
func (p Place) Cover() (int, int) {
	signs, first := p.Whole, 0
	for i := 0; i < p.Direct(); i++ {
		if p.Steps[i] == '1' {
			first += types.Cells(types.First(signs))
		}
		signs = types.Step(signs, p.Steps[i])
	}
	return first, types.Cells(signs)
}

// Ahead tells how many references of the variable's type stand ahead of those in the place's.
func (p Place) Ahead() int {
	signs, count := p.Whole, 0
	for i := 0; i < len(p.Steps); i++ {
		if p.Steps[i] == '1' {
			count += types.References(types.First(signs))
		}
		if p.Steps[i] == '*' && types.IsReference(signs) {
			count++
		}
		signs = types.Step(signs, p.Steps[i])
	}
	return count
}

// Shared tells whether the place is behind a shared reference.
func (p Place) Shared() bool {
	return p.through("r", 0)
}

// ThroughMut tells whether a star of the steps from a number on goes through a reference to be written through.
func (p Place) ThroughMut(from int) bool {
	return p.through("m", from)
}

func (p Place) through(sign string, from int) bool {
	signs := p.Whole
	for i := 0; i < len(p.Steps); i++ {
		if i >= from && p.Steps[i] == '*' && len(signs) > 0 && signs[:1] == sign {
			return true
		}
		signs = types.Step(signs, p.Steps[i])
	}
	return false
}

// Begins tells whether the steps of a place are the beginning of those of another.
func (p Place) Begins(other Place) bool {
	return len(p.Steps) <= len(other.Steps) && other.Steps[:len(p.Steps)] == p.Steps
}

// Up tells the place that this one's first steps lead to.
func (p Place) Up(steps int) Place {
	if steps >= 0 && steps < len(p.Steps) {
		p.Steps = p.Steps[:steps]
	}
	return p
}
