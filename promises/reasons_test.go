package promises

import (
	"fmt"
	"strings"

	"borrowing/api"
	"borrowing/borrowing"
)

// The judge of reasons: whether what Why says is a reason by the words of P22, followed point by point.

type reason struct {
	path, chain []int
	api.Reason
}

func why(text string) reason {
	path, chain, r := borrowing.Why(text)
	return reason{path, chain, r}
}

// String: as the document writes it: the path; the chain; At and Var.
func (r reason) String() string {
	return fmt.Sprintf("%s; %s; %d %d", inRow(r.path), inRow(r.chain), r.At, r.Var)
}

func inRow(list []int) string {
	if list == nil {
		return "nil"
	}
	return strings.Trim(fmt.Sprint(list), "[]")
}

// flaw: what is wrong with a reason for a verdict ("": nothing).
func (j *judge) flaw(v api.Verdict, r reason) string {
	for _, list := range [][]int{r.path, r.chain} {
		if cap(list) != len(list) || list != nil && len(list) == 0 {
			return "a list with spare room, or an empty one that is not nil"
		}
	}
	switch v.Rule {
	case api.RUninit:
		return j.flawOfMove(v, r)
	case api.RBorrowed:
		return j.flawOfLoan(v, r)
	case api.ROutlives:
		return j.flawOfLives(v, r)
	}
	if r.path != nil || r.chain != nil || r.Reason != (api.Reason{}) {
		return "there is nothing to tell"
	}
	return ""
}

func (j *judge) flawOfPath(r reason) string {
	if len(r.path) == 0 || r.path[0] < 0 || r.path[0] >= len(j.points) || r.Var < 0 || r.Var >= len(j.locals) {
		return "no path, or no variable"
	}
	for k := 1; k < len(r.path); k++ {
		if p := j.points[r.path[k-1]]; r.path[k] < 0 || p.Next != r.path[k] && p.Else != r.path[k] {
			return fmt.Sprintf("no way leads from %d to %d", r.path[k-1], r.path[k])
		}
	}
	return ""
}

func (j *judge) flawOfMove(v api.Verdict, r reason) string {
	if flaw := j.flawOfPath(r); flaw != "" {
		return flaw
	}
	last := len(r.path) - 1
	own := j.ownLoss(v.Point)
	switch {
	case r.chain != nil:
		return "a chain"
	case last < 0 || r.At != last || r.path[last] != v.Point:
		return "At is not the place of Check's point, the path's last"
	case (len(own) > 0) != (last == 0):
		return fmt.Sprintf("its own operands take away %v", own)
	}
	lost := map[string]bool{}
	for cell := range j.covers(r.Var, "") {
		lost[cell] = own[cell] || last > 0 && j.takes(r.path[0], cell)
		for _, i := range r.path[:last] {
			lost[cell] = lost[cell] && !j.gives(i, cell)
		}
	}
	for _, n := range j.needs(v.Point) {
		for cell := range j.covers(n.v, n.steps) {
			if lost[cell] {
				return ""
			}
		}
	}
	return fmt.Sprintf("no need of the point finds one of %v", lost)
}

// ownLoss: the cells that a point's operands take away ahead of a need of them.
func (j *judge) ownLoss(i int) map[string]bool {
	found, gone := map[string]bool{}, map[string]bool{}
	for _, n := range j.needs(i) {
		for cell := range j.covers(n.v, n.steps) {
			if gone[cell] {
				found[cell] = true
			}
			gone[cell] = gone[cell] || n.moved
		}
	}
	return found
}

func (j *judge) flawOfLoan(v api.Verdict, r reason) string {
	if flaw := j.flawOfPath(r); flaw != "" {
		return flaw
	}
	last := len(r.path) - 1
	if r.At < 1 || r.At > last || r.path[0] != v.Loan || r.path[r.At] != v.Point {
		return "the path does not begin with the loan, or At is not the place of Check's point"
	}
	loan := j.points[v.Loan]
	for _, i := range r.path[:r.At] {
		if j.renews(i, loan.A.N) {
			return fmt.Sprintf("%d gives what is borrowed a new value", i)
		}
	}
	from, held := j.region(loan.DVar, loan.DProj), map[string]bool{}
	for _, steps := range refNames(j.locals[r.Var].Type) {
		held[j.region(r.Var, steps)] = true
	}
	switch {
	case held[from] != (r.chain == nil):
		return "a chain to what is Var's own, or none to what is not"
	case !j.leads(from, r.chain, held):
		return "the chain does not lead to a region of Var"
	case j.locals[r.Var].Life != "":
		if r.path[last] != j.funcs[j.owner(r.Var)].End {
			return "the path does not go on to the End"
		}
		return ""
	case !j.uses(r.path[last], r.Var):
		return "the path's last point does not use Var"
	}
	for _, i := range r.path[r.At:last] {
		if j.renews(i, r.Var) {
			return fmt.Sprintf("%d gives Var a new value", i)
		}
	}
	return ""
}

// leads: whether inclusions of the points of a chain, the last first, lead from a region to one of some, one of each point.
func (j *judge) leads(from string, chain []int, to map[string]bool) bool {
	at := map[string]bool{from: true}
	for k := len(chain) - 1; k >= 0; k-- {
		next := map[string]bool{}
		for _, a := range j.asked {
			if a.point == chain[k] && at[a.from] {
				next[a.to] = true
			}
		}
		at = next
	}
	for r := range at {
		if to[r] {
			return true
		}
	}
	return false
}

func (j *judge) flawOfLives(v api.Verdict, r reason) string {
	_, f, one, other := j.outlives()
	switch {
	case r.path != nil:
		return "a path"
	case r.At != one || r.Var != other:
		return fmt.Sprintf("the lifetimes are %d and %d", one, other)
	case len(r.chain) == 0 || r.chain[0] != v.Point:
		return "the chain's last point, which stands first, is not Check's"
	case !j.leads(lifetime(f, one), r.chain, map[string]bool{lifetime(f, other): true}):
		return "the chain does not lead from the one to the other"
	}
	return ""
}
