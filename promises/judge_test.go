package promises

import (
	"fmt"
	"strings"
	"testing"

	"borrowing/api"
	"borrowing/borrowing"
)

// The judge: a second checker, by the words of P16 to P21 one after another: cells and regions have names, and each question is a search for a path of its own.

type judge struct {
	points []api.Point
	locals []api.Local
	funcs  []api.Func
	asked  []asked
}

// asked: a point asks for one region to be included in another.
type asked struct {
	from, to string
	point    int
}

// where: a place, and what a point does with it.
type where struct {
	v       int
	steps   string
	moved   bool
	written bool
	target  bool // what is assigned to, dropped or ended
}

func newJudge(p []api.Point, l []api.Local, f []api.Func) *judge {
	j := &judge{points: p, locals: l, funcs: f}
	for i := range p {
		j.ask(i)
	}
	return j
}

func judgement(text string) (*judge, api.Verdict) {
	p, l, f, v := borrowing.Graph(text)
	if v.Rule != api.Accept {
		return nil, v
	}
	j := newJudge(p, l, f)
	if at := j.uninit(); at >= 0 {
		return j, j.verdict(api.RUninit, at, -1)
	}
	if at, _, _, _ := j.outlives(); at >= 0 {
		return j, j.verdict(api.ROutlives, at, -1)
	}
	if at, loan := j.borrowed(); at >= 0 {
		return j, j.verdict(api.RBorrowed, at, loan)
	}
	return j, v
}

func (j *judge) verdict(rule, at, loan int) api.Verdict {
	return api.Verdict{Rule: rule, Line: j.points[at].Line, Col: j.points[at].Col, Point: at, Loan: loan}
}

func typeAt(signs, steps string) string {
	for _, s := range steps {
		switch s {
		case '*':
			signs = signs[1:]
		case '0':
			signs, _ = halves(signs)
		case '1':
			_, signs = halves(signs)
		}
	}
	return signs
}

func prefixed(ahead string, list []string) []string {
	var out []string
	for _, s := range list {
		out = append(out, ahead+s)
	}
	return out
}

// cellNames: the steps to the cells of a type.
func cellNames(signs string) []string {
	if signs[0] != 'p' {
		return []string{""}
	}
	one, two := halves(signs)
	return append(prefixed("0", cellNames(one)), prefixed("1", cellNames(two))...)
}

// refNames: the steps to the references in a type, in their order.
func refNames(signs string) []string {
	switch signs[0] {
	case 'p':
		one, two := halves(signs)
		return append(prefixed("0", refNames(one)), prefixed("1", refNames(two))...)
	case 'b':
		return prefixed("*", refNames(signs[1:]))
	case 'r', 'm':
		return append([]string{""}, prefixed("*", refNames(signs[1:]))...)
	}
	return nil
}

// behind: the points to which a path of one way or more leads, over points that will do.
func (j *judge) behind(from int, over func(p int) bool) map[int]bool {
	found := map[int]bool{}
	var visit func(p int)
	visit = func(p int) {
		for _, to := range []int{j.points[p].Next, j.points[p].Else} {
			if to >= 0 && !found[to] {
				found[to] = true
				if over(to) {
					visit(to)
				}
			}
		}
	}
	visit(from)
	return found
}

// operands: the places that are operands of a point.
func (j *judge) operands(i int) []where {
	p := j.points[i]
	var list []where
	for _, o := range []api.Opnd{p.A, p.B} {
		if o.Kind != api.Place {
			continue
		}
		lent := p.Kind == api.Assign && (p.Rv == api.Ref || p.Rv == api.Mut)
		moved := !lent && isMoved(typeAt(j.locals[o.N].Type, o.Proj))
		list = append(list, where{v: o.N, steps: o.Proj, moved: moved, written: moved || lent && p.Rv == api.Mut})
	}
	return list
}

func (j *judge) covers(v int, steps string) map[string]bool {
	direct, _, _ := strings.Cut(steps, "*")
	found := map[string]bool{}
	for _, c := range cellNames(j.locals[v].Type) {
		if strings.HasPrefix(c, direct) {
			found[fmt.Sprint(v, " ", c)] = true
		}
	}
	return found
}

func (j *judge) takes(i int, cell string) bool {
	p := j.points[i]
	if (p.Kind == api.Let || p.Kind == api.Drop) && j.covers(p.DVar, p.DProj)[cell] {
		return true
	}
	for _, o := range j.operands(i) {
		if o.moved && j.covers(o.v, o.steps)[cell] {
			return true
		}
	}
	return false
}

func (j *judge) gives(i int, cell string) bool {
	p := j.points[i]
	return p.Kind == api.Assign && !strings.Contains(p.DProj, "*") && j.covers(p.DVar, p.DProj)[cell]
}

// lost: the points that may find a cell without a value.
func (j *judge) lost(cell string) map[int]bool {
	found := map[int]bool{}
	for i := range j.points {
		if !j.takes(i, cell) || j.gives(i, cell) {
			continue
		}
		for q := range j.behind(i, func(p int) bool { return !j.gives(p, cell) }) {
			found[q] = true
		}
	}
	return found
}

// needs: the places of which a point needs the cells, in order.
func (j *judge) needs(i int) []where {
	p := j.points[i]
	list := j.operands(i)
	if p.Kind == api.Drop || p.Kind == api.Assign && strings.Contains(p.DProj, "*") {
		list = append(list, where{v: p.DVar, steps: p.DProj})
	}
	return list
}

func (j *judge) uninit() int {
	lost := map[string]map[int]bool{}
	for v := range j.locals {
		for cell := range j.covers(v, "") {
			lost[cell] = j.lost(cell)
		}
	}
	for i := range j.points {
		gone := map[string]bool{}
		for _, n := range j.needs(i) {
			for cell := range j.covers(n.v, n.steps) {
				if lost[cell][i] || gone[cell] {
					return i
				}
			}
			for cell := range j.covers(n.v, n.steps) {
				gone[cell] = gone[cell] || n.moved
			}
		}
	}
	return -1
}

// owner: the function of which a variable is a parameter or the result (-1: none).
func (j *judge) owner(v int) int {
	for f, known := range j.funcs {
		if known.Param <= v && v <= known.Ret {
			return f
		}
	}
	return -1
}

// life: the lifetime of a reference in a signature.
func (j *judge) life(v int, steps string) string {
	for k, s := range refNames(j.locals[v].Type) {
		if s == steps {
			return j.locals[v].Life[k : k+1]
		}
	}
	panic("no such reference")
}

func (j *judge) region(v int, steps string) string {
	if f := j.owner(v); f >= 0 {
		return fmt.Sprint("fn ", f, j.life(v, steps))
	}
	return fmt.Sprint("let ", v, " ", steps)
}

func belowMut(signs, steps string) bool {
	for n := range steps {
		if typeAt(signs, steps[:n])[0] == 'm' {
			return true
		}
	}
	return false
}

func (j *judge) include(point int, from, to string) {
	j.asked = append(j.asked, asked{from, to, point})
}

// beside: a value of a type that is given to a place of it; from and to tell the regions.
func (j *judge) beside(point int, signs string, both bool, from, to func(steps string) string) {
	for _, s := range refNames(signs) {
		j.include(point, from(s), to(s))
		if both || belowMut(signs, s) {
			j.include(point, to(s), from(s))
		}
	}
}

func (j *judge) at(v int, steps string) func(string) string {
	return func(s string) string { return j.region(v, steps+s) }
}

func (j *judge) ask(i int) {
	p := j.points[i]
	if p.Kind != api.Assign {
		return
	}
	operand := func(o api.Opnd, to func(string) string) {
		if o.Kind == api.Place {
			j.beside(i, typeAt(j.locals[o.N].Type, o.Proj), p.Rv == api.Mut, j.at(o.N, o.Proj), to)
		}
	}
	called := func(v int) func(string) string {
		return func(s string) string { return fmt.Sprint("call ", i, j.life(v, s)) }
	}
	switch p.Rv {
	case api.Use:
		operand(p.A, j.at(p.DVar, p.DProj))
	case api.Box:
		operand(p.A, j.at(p.DVar, p.DProj+"*"))
	case api.Pair:
		operand(p.A, j.at(p.DVar, p.DProj+"0"))
		operand(p.B, j.at(p.DVar, p.DProj+"1"))
	case api.Ref, api.Mut:
		operand(p.A, j.at(p.DVar, p.DProj+"*"))
		j.reborrow(i)
	case api.Call:
		f := j.funcs[p.Fn]
		operand(p.A, called(f.Param))
		operand(p.B, called(f.Param+1))
		j.beside(i, j.locals[f.Ret].Type, false, called(f.Ret), j.at(p.DVar, p.DProj))
	}
}

func (j *judge) reborrow(i int) {
	p := j.points[i]
	for steps := p.A.Proj; strings.Contains(steps, "*"); {
		steps = steps[:strings.LastIndex(steps, "*")]
		switch typeAt(j.locals[p.A.N].Type, steps)[0] {
		case 'm':
			j.include(i, j.region(p.A.N, steps), j.region(p.DVar, p.DProj))
		case 'r':
			j.include(i, j.region(p.A.N, steps), j.region(p.DVar, p.DProj))
			return
		}
	}
}

// far: by how many inclusions a region comes to others.
func (j *judge) far(from string) map[string]int {
	far := map[string]int{from: 0}
	for n := 0; ; n++ {
		more := false
		for _, a := range j.asked {
			d, ok := far[a.from]
			if _, known := far[a.to]; ok && !known && d == n {
				far[a.to] = n + 1
				more = true
			}
		}
		if !more {
			return far
		}
	}
}

// lifetime: the region of a function's lifetime.
func lifetime(f, number int) string {
	return fmt.Sprint("fn ", f, string(rune('a'+number)))
}

// outlives: the point, the function, and the two lifetimes of which the one comes to the other.
func (j *judge) outlives() (point, function, one, other int) {
	for f, known := range j.funcs {
		for a := 0; a < known.Lives; a++ {
			far := j.far(lifetime(f, a))
			for b := 0; b < known.Lives; b++ {
				to := lifetime(f, b)
				if _, ok := far[to]; !ok || a == b {
					continue
				}
				for _, asks := range j.asked {
					if d, ok := far[asks.from]; ok && asks.to == to && d == far[to]-1 {
						return asks.point, f, a, b
					}
				}
			}
		}
	}
	return -1, -1, -1, -1
}

func (j *judge) uses(i, v int) bool {
	p := j.points[i]
	for _, o := range j.operands(i) {
		if o.v == v {
			return true
		}
	}
	return p.Kind == api.Assign && p.DVar == v && strings.Contains(p.DProj, "*")
}

func (j *judge) renews(i, v int) bool {
	p := j.points[i]
	return p.DVar == v && p.DProj == "" && (p.Kind == api.Let || p.Kind == api.Dead || p.Kind == api.Assign)
}

// liveAt: the points at which a variable is live.
func (j *judge) liveAt(v int) map[int]bool {
	found := map[int]bool{}
	for i := range j.points {
		ahead := map[int]bool{}
		if !j.renews(i, v) {
			ahead = j.behind(i, func(p int) bool { return !j.renews(p, v) })
		}
		ahead[i] = true
		for u := range ahead {
			found[i] = found[i] || j.uses(u, v)
		}
		if f := j.owner(v); f >= 0 && j.locals[v].Life != "" {
			end := j.funcs[f].End
			found[i] = found[i] || i == end || j.behind(i, func(int) bool { return true })[end]
		}
	}
	return found
}

func (j *judge) touches(i int) []where {
	p := j.points[i]
	list := j.operands(i)
	switch p.Kind {
	case api.Assign, api.Drop, api.Dead:
		list = append(list, where{v: p.DVar, steps: p.DProj, written: true, target: true})
	case api.End:
		for _, o := range j.operands(i) {
			list = append(list, where{v: o.v, written: true, target: true})
		}
	}
	return list
}

func (j *judge) starsThrough(v int, steps string, from int, sign byte) bool {
	for n := from; n < len(steps); n++ {
		if steps[n] == '*' && typeAt(j.locals[v].Type, steps[:n])[0] == sign {
			return true
		}
	}
	return false
}

func (j *judge) conflict(w where, loan int) bool {
	p := j.points[loan]
	lent := p.A.Proj
	switch {
	case w.v != p.A.N, !w.written && p.Rv != api.Mut, j.starsThrough(w.v, lent, 0, 'r'):
		return false
	case w.target && strings.HasPrefix(lent, w.steps) && j.starsThrough(w.v, lent, len(w.steps), 'm'):
		return false
	}
	return strings.HasPrefix(lent, w.steps) || strings.HasPrefix(w.steps, lent)
}

// scopeOf: the points at which a loan is in scope.
func (j *judge) scopeOf(loan int, live []map[int]bool) map[int]bool {
	p := j.points[loan]
	far := j.far(j.region(p.DVar, p.DProj))
	carried := func(i int) bool {
		for v, l := range j.locals {
			for _, s := range refNames(l.Type) {
				if _, ok := far[j.region(v, s)]; ok && live[v][i] {
					return true
				}
			}
		}
		return false
	}
	found := map[int]bool{}
	if j.renews(loan, p.A.N) {
		return found
	}
	for i := range j.behind(loan, func(i int) bool { return carried(i) && !j.renews(i, p.A.N) }) {
		found[i] = carried(i)
	}
	return found
}

func (j *judge) borrowed() (int, int) {
	var live []map[int]bool
	for v := range j.locals {
		live = append(live, j.liveAt(v))
	}
	scopes := map[int]map[int]bool{}
	for i, p := range j.points {
		if p.Kind == api.Assign && (p.Rv == api.Ref || p.Rv == api.Mut) {
			scopes[i] = j.scopeOf(i, live)
		}
	}
	for i := range j.points {
		for _, w := range j.touches(i) {
			for loan := range j.points {
				if scopes[loan][i] && j.conflict(w, loan) {
					return i, loan
				}
			}
		}
	}
	return -1, -1
}

// TestP21TheJudge: the checker and the judge are of one mind.
func TestP21TheJudge(t *testing.T) {
	rules := map[int]int{}
	list := append(programs(t, 31, 1500), tangles(t, 32, 3000)...)
	for _, text := range list {
		got := borrowing.Check(text)
		_, want := judgement(text)
		rules[want.Rule]++
		if got != want {
			t.Fatalf("P21: Check(%q): %s, want %s", text, showVerdict(got), showVerdict(want))
		}
	}
	for _, rule := range []int{api.Accept, api.RUninit, api.ROutlives, api.RBorrowed} {
		if rules[rule] < 100 {
			t.Errorf("%d programs only with %s", rules[rule], ruleNames[rule])
		}
	}
}
