package promises

import (
	"fmt"
	"testing"

	"borrowing/api"
	"borrowing/borrowing"
	"borrowing/machine"
)

// The model: a second machine, laid out otherwise: pointers for objects and loans, a fault ends a step by panic.

type thing struct {
	n     int
	cells []held
	gone  bool
}

// held: what a cell holds: '-', '<', 'x', 'i', 'b' or 'r'.
type held struct {
	kind   byte
	number int
	object *thing
	from   int // of a reference: the first of its cells, and the one behind the last
	to     int
	lent   *lease
}

type lease struct {
	n        int
	object   *thing
	from, to int
	mut, cut bool
	parent   *lease
}

type activity struct {
	caller int
	vars   map[int]*thing
}

type model struct {
	points []api.Point
	locals []api.Local
	funcs  []api.Func
	things []*thing
	leases []*lease
	works  []*activity
	outs   []int
	pc     int
	last   int
	in     int
}

func newModel(text string) *model {
	p, l, f, _ := borrowing.Graph(text)
	return &model{points: p, locals: l, funcs: f, works: []*activity{{caller: -1, vars: map[int]*thing{}}}, pc: f[len(f)-1].Entry, last: api.Ran}
}

func cellsOf(signs string) int {
	if signs[0] != 'p' {
		return 1
	}
	one, two := halves(signs)
	return cellsOf(one) + cellsOf(two)
}

func (m *model) work() *activity { return m.works[len(m.works)-1] }

func (m *model) object(cells []held) *thing {
	if len(m.things) == 48 {
		panic(api.Full)
	}
	o := &thing{n: len(m.things), cells: append([]held(nil), cells...)}
	m.things = append(m.things, o)
	return o
}

func (m *model) step(in int) (end int) {
	if m.last != api.Ran {
		return m.last
	}
	defer func() {
		if fault := recover(); fault != nil {
			m.last = fault.(int)
		}
		end = m.last
	}()
	m.in = in
	m.point(m.points[m.pc])
	return
}

// reach: where a place lies: its object, cells and the loan by which one comes.
type reach struct {
	object   *thing
	from, to int
	by       *lease
	signs    string
}

func (r reach) each(f func(c *held)) {
	for i := r.from; i < r.to; i++ {
		f(&r.object.cells[i])
	}
}

func mustHave(r reach) {
	r.each(func(c *held) {
		switch c.kind {
		case '-':
			panic(api.FNever)
		case '<':
			panic(api.FMoved)
		case 'x':
			panic(api.FDropped)
		}
	})
}

func (m *model) touch(r reach, write bool) {
	spared := map[*lease]bool{}
	for l := r.by; l != nil; l = l.parent {
		spared[l] = true
	}
	for _, l := range m.leases {
		common := false
		for i := r.from; i < r.to; i++ {
			common = common || l.object == r.object && l.from <= i && i < l.to
		}
		if common && !spared[l] && (write || l.mut) {
			l.cut = true
		}
	}
}

func (m *model) find(variable int, steps string, write bool) reach {
	o := m.work().vars[variable]
	r := reach{object: o, to: len(o.cells), signs: m.locals[variable].Type}
	for _, step := range steps {
		if step != '*' {
			one, two := halves(r.signs)
			middle := r.from + cellsOf(one)
			if step == '0' {
				r.to, r.signs = middle, one
			} else {
				r.from, r.signs = middle, two
			}
			continue
		}
		mustHave(r)
		m.touch(r, write)
		c := r.object.cells[r.from]
		r.signs = r.signs[1:]
		if c.kind == 'b' {
			r.object, r.from, r.to = c.object, 0, len(c.object.cells)
			continue
		}
		if c.lent.cut {
			panic(api.FConflict)
		}
		if c.object.gone {
			panic(api.FDangling)
		}
		r.object, r.from, r.to, r.by = c.object, c.from, c.to, c.lent
	}
	return r
}

func (m *model) use(o api.Opnd, input int) []held {
	switch o.Kind {
	case api.None:
		return nil
	case api.Number:
		return []held{{kind: 'i', number: o.N}}
	case api.Input:
		return []held{{kind: 'i', number: input}}
	}
	r := m.find(o.N, o.Proj, false)
	mustHave(r)
	moved := isMoved(r.signs)
	m.touch(r, moved)
	value := append([]held(nil), r.object.cells[r.from:r.to]...)
	if moved {
		r.each(func(c *held) { *c = held{kind: '<'} })
	}
	return value
}

func (m *model) value(p api.Point) []held {
	if p.Rv == api.Ref || p.Rv == api.Mut {
		r := m.find(p.A.N, p.A.Proj, p.Rv == api.Mut)
		mustHave(r)
		if len(m.leases) == 96 {
			panic(api.Full)
		}
		m.touch(r, p.Rv == api.Mut)
		l := &lease{n: len(m.leases), object: r.object, from: r.from, to: r.to, mut: p.Rv == api.Mut, parent: r.by}
		m.leases = append(m.leases, l)
		return []held{{kind: 'r', object: r.object, from: r.from, to: r.to, lent: l}}
	}
	one := m.use(p.A, m.in&1)
	two := m.use(p.B, m.in>>1&1)
	switch p.Rv {
	case api.Box:
		return []held{{kind: 'b', object: m.object(one)}}
	case api.Pair:
		return append(one, two...)
	case api.Sum:
		return []held{{kind: 'i', number: (one[0].number + two[0].number) % 10000}}
	}
	return one
}

func lose(c *held) {
	if c.kind == 'b' {
		for i := range c.object.cells {
			lose(&c.object.cells[i])
		}
		c.object.gone = true
	}
}

func (m *model) assign(p api.Point, value []held) {
	r := m.find(p.DVar, p.DProj, true)
	m.touch(r, true)
	r.each(lose)
	copy(r.object.cells[r.from:r.to], value)
	m.pc = p.Next
}

func (m *model) end(variable int) {
	o := m.work().vars[variable]
	for i := range o.cells {
		lose(&o.cells[i])
	}
	o.gone = true
	delete(m.work().vars, variable)
}

func (m *model) call(p api.Point) {
	values := [][]held{m.use(p.A, m.in&1)}
	values = append(values, m.use(p.B, m.in>>1&1))
	if len(m.works) == 7 {
		panic(api.Full)
	}
	f := m.funcs[p.Fn]
	m.works = append(m.works, &activity{caller: m.pc, vars: map[int]*thing{}})
	for i := 0; i < f.N; i++ {
		m.work().vars[f.Param+i] = m.object(values[i])
	}
	m.pc = f.Entry
}

func (m *model) point(p api.Point) {
	switch p.Kind {
	case api.Let:
		cells := make([]held, cellsOf(m.locals[p.DVar].Type))
		for i := range cells {
			cells[i].kind = '-'
		}
		m.work().vars[p.DVar] = m.object(cells)
		m.pc = p.Next
	case api.Assign:
		if p.Rv == api.Call {
			m.call(p)
		} else {
			m.assign(p, m.value(p))
		}
	case api.Drop:
		r := m.find(p.DVar, p.DProj, true)
		mustHave(r)
		m.touch(r, true)
		r.each(lose)
		r.each(func(c *held) { *c = held{kind: 'x'} })
		m.pc = p.Next
	case api.Out:
		value := m.use(p.A, m.in&1)
		if len(m.outs) == 16 {
			panic(api.Full)
		}
		m.outs = append(m.outs, value[0].number)
		m.pc = p.Next
	case api.Test:
		if m.use(p.A, m.in&1)[0].number != 0 {
			m.pc = p.Next
		} else {
			m.pc = p.Else
		}
	case api.Dead:
		m.end(p.DVar)
		m.pc = p.Next
	case api.End:
		if len(m.works) == 1 {
			panic(api.Done)
		}
		value := m.use(p.A, 0)
		m.end(p.A.N)
		m.pc = m.work().caller
		m.works = m.works[:len(m.works)-1]
		m.assign(m.points[m.pc], value)
	}
}

func showRange(o *thing, from, to int) string {
	return fmt.Sprintf("%d.%d+%d", o.n, from, to-from)
}

func (m *model) show() string {
	s := fmt.Sprintf("%d@%d", m.last, m.pc)
	for _, o := range m.things {
		s += fmt.Sprintf("\n#%d", o.n)
		if o.gone {
			s += " gone"
			continue
		}
		for _, c := range o.cells {
			switch c.kind {
			case 'i':
				s += fmt.Sprintf(" %d", c.number)
			case 'b':
				s += fmt.Sprintf(" #%d", c.object.n)
			case 'r':
				s += fmt.Sprintf(" &%s/%d", showRange(c.object, c.from, c.to), c.lent.n)
			default:
				s += " " + string(rune(c.kind))
			}
		}
	}
	for _, w := range m.works {
		s += fmt.Sprintf("\n(%d", w.caller+1)
		for v, l := range m.locals {
			if o := w.vars[v]; o != nil {
				s += fmt.Sprintf(" %s=#%d", l.Name, o.n)
			}
		}
	}
	for _, l := range m.leases {
		parent := 0
		if l.parent != nil {
			parent = l.parent.n + 1
		}
		s += fmt.Sprintf("\n/%d %s %d", l.n, showRange(l.object, l.from, l.to), parent)
		if l.mut {
			s += " mut"
		}
		if l.cut {
			s += " cut"
		}
	}
	return s
}

// Programs by chance run on the machine as on the model, step by step.
func TestP11ToP15Model(t *testing.T) {
	ends := map[int]int{}
	d := &dice{12}
	for _, text := range programs(t, 11, 1500) {
		for round := 0; round < 3; round++ {
			m, _ := machine.New(text)
			o := newModel(text)
			for n := 0; n < 250; n++ {
				in := d.below(4)
				got, want := m.Step(in), o.step(in)
				if got != want || m.Pc() != o.pc || m.Show() != o.show() || fmt.Sprint(m.Outs()) != fmt.Sprint(o.outs) {
					t.Fatalf("%q: step %d: %d, want %d; put out %v, want %v; Show is\n%s\nwant\n%s", text, n, got, want, m.Outs(), o.outs, m.Show(), o.show())
				}
				if got != api.Ran {
					break
				}
			}
			ends[o.last]++
		}
	}
	for _, end := range []int{api.Done, api.Full, api.FNever, api.FMoved, api.FDropped, api.FDangling, api.FConflict} {
		if ends[end] < 10 {
			t.Errorf("the programs are too tame: %d of them end with %d", ends[end], end)
		}
	}
}
