package modes

import (
	"slices"

	"synchrony/api"
	"synchrony/bword"
	"synchrony/scope"
	"synchrony/value"
)

// run is an execution of the last node of a program, as the section Semantics describes it. No variable may depend on itself.
type run struct {
	p         api.Program
	main      *body
	undecided bool // whether a condition of a transition was undefined
	taken     map[string]int
	delayed   []func() // what is executed at the end of an instant
}

func newRun(p api.Program) *run {
	r := &run{p: p, taken: map[string]int{}}
	r.main = r.instance(len(p.Nodes) - 1)
	return r
}

// body executes the body of a node or of a state.
type body struct {
	*run
	up    *body // what contains the automaton of a state
	decls []api.Decl
	eqs   []api.Eq
	autos []*machine
	count map[*api.Expr]int // how often each occurrence was executed
	kept  map[*api.Expr]api.Cell
	inner map[*api.Expr]*body
	cells map[string]api.Cell // of this instant
}

// machine executes an automaton.
type machine struct {
	up      *body
	states  []api.State
	defined []string // what each of its states defines
	bodies  []*body
	index   int
	restart bool
	now     int // the state that is executed at this instant; -1 as long as it is not known
}

func (r *run) instance(i int) *body {
	n := r.p.Nodes[i]
	return r.body(nil, slices.Concat(n.In, n.Out, n.Locals), n.Eqs, n.Autos)
}

func (r *run) body(up *body, decls []api.Decl, eqs []api.Eq, autos []api.Auto) *body {
	b := &body{run: r, up: up, decls: decls, eqs: eqs, count: map[*api.Expr]int{}, kept: map[*api.Expr]api.Cell{}, inner: map[*api.Expr]*body{}, cells: map[string]api.Cell{}}
	for _, a := range autos {
		b.autos = append(b.autos, &machine{up: b, states: a.States, defined: scope.Defined(api.Node{Autos: []api.Auto{a}}), bodies: make([]*body, len(a.States))})
	}
	return b
}

// begin forgets the instant before.
func (b *body) begin() {
	clear(b.cells)
	for _, m := range b.autos {
		m.now = -1
	}
}

// step executes an instant of a node and returns its outputs.
func (b *body) step(inputs []api.Cell, out []api.Decl) []api.Cell {
	b.begin()
	for i, c := range inputs {
		b.cells[b.decls[i].Name] = c
	}
	var l []api.Cell
	for _, d := range out {
		l = append(l, b.variable(d.Name))
	}
	b.finish()
	return l
}

// next executes an instant of the main node and returns its outputs.
func (r *run) next(row []int) []api.Cell {
	var in []api.Cell
	for _, v := range row {
		in = append(in, api.Cell{Kind: api.Present, V: v})
	}
	l := r.main.step(in, r.p.Nodes[len(r.p.Nodes)-1].Out)
	for len(r.delayed) > 0 {
		f := r.delayed[0]
		r.delayed = r.delayed[1:]
		f()
	}
	return l
}

// finish executes what no output needed, and decides about the next states.
func (b *body) finish() {
	for _, x := range b.eqs {
		b.variable(x.Left[0])
	}
	for _, m := range b.autos {
		s := m.executed()
		s.finish()
		until := m.states[m.now].Until
		m.index, m.restart = m.now, false
		if i := s.first(until, "until"); i >= 0 {
			m.index, m.restart = until[i].To, !until[i].Resume
		}
	}
}

// first returns the index of the first transition whose condition is true, or -1. All conditions are evaluated.
func (b *body) first(l []api.Trans, word string) int {
	first := -1
	for i := range l {
		c := b.exec(&l[i].Cond, nil)[0]
		if c.Kind == api.Undef {
			b.undecided = true
		}
		if c.V == 1 && first < 0 {
			first = i
			b.taken[word]++
			if l[i].Resume {
				b.taken["continue"]++
			}
		}
	}
	return first
}

// executed returns the body of the state that is executed at this instant.
func (m *machine) executed() *body {
	if m.now >= 0 {
		return m.bodies[m.now]
	}
	unless := m.states[m.index].Unless
	if i := m.up.first(unless, "unless"); i >= 0 {
		m.index, m.restart = unless[i].To, !unless[i].Resume
	}
	m.now = m.index
	if m.bodies[m.now] == nil || m.restart {
		s := m.states[m.now]
		m.bodies[m.now] = m.up.body(m.up, s.Locals, s.Eqs, s.Autos)
	}
	m.bodies[m.now].begin()
	return m.bodies[m.now]
}

// variable returns the cell of a visible variable; what defines it is executed before, if it was not yet.
func (b *body) variable(name string) api.Cell {
	i := slices.IndexFunc(b.decls, func(d api.Decl) bool { return d.Name == name })
	if i < 0 {
		return b.up.variable(name)
	}
	if _, ok := b.cells[name]; !ok {
		b.define(name, b.decls[i].Clock)
	}
	return b.cells[name]
}

// define stores the cell of a variable on a clock that is defined in b, and of those that are defined with it.
func (b *body) define(name string, ck []api.On) {
	for i, x := range b.eqs {
		if slices.Contains(x.Left, name) {
			l := b.exec(&b.eqs[i].Right, ck)
			for k, left := range x.Left {
				b.owner(left)[left] = l[k]
			}
			return
		}
	}
	for _, m := range b.autos {
		if slices.Contains(m.defined, name) {
			m.executed().define(name, ck)
		}
	}
}

// owner returns the cells of the body that declares a variable.
func (b *body) owner(name string) map[string]api.Cell {
	for ; b.up != nil; b = b.up {
		if slices.ContainsFunc(b.decls, func(d api.Decl) bool { return d.Name == name }) {
			break
		}
	}
	return b.cells
}

func (b *body) active(ck []api.On) bool {
	for _, on := range ck {
		if b.variable(on.Name) != (api.Cell{Kind: api.Present, V: on.Tag}) {
			return false
		}
	}
	return true
}

// args executes the arguments of e, those that are delayed at the end of the instant.
func (b *body) args(e *api.Expr, ck []api.On) []api.Cell {
	l := make([]api.Cell, len(e.Args))
	for i := range e.Args {
		on := ck
		switch e.Kind {
		case api.EWhen:
			on = ck[:len(ck)-1]
		case api.EMerge:
			on = append(slices.Clone(ck), api.On{Name: e.Name, T: e.T, Tag: i})
		}
		if e.Kind == api.EPre || e.Kind == api.EFby && i == 1 {
			b.delayed = append(b.delayed, func() {
				if c := b.exec(&e.Args[i], on)[0]; b.active(on) {
					b.kept[e] = c
				}
			})
			continue
		}
		l[i] = b.exec(&e.Args[i], on)[0]
	}
	return l
}

// exec executes an occurrence on a clock and returns its cells: several ones for a call of a node with several outputs.
func (b *body) exec(e *api.Expr, ck []api.On) []api.Cell {
	l := b.args(e, ck)
	if e.Kind == api.ECall {
		return b.call(e, ck, l)
	}
	if !b.active(ck) {
		return []api.Cell{{}}
	}
	defer func() { b.count[e]++ }()
	return []api.Cell{b.cell(e, l)}
}

func (b *body) call(e *api.Expr, ck []api.On, l []api.Cell) []api.Cell {
	i := slices.IndexFunc(b.p.Nodes, func(n api.Node) bool { return n.Name == e.Name })
	n := b.p.Nodes[i]
	if !b.active(ck) {
		return make([]api.Cell, len(n.Out))
	}
	if b.inner[e] == nil || e.V == 1 && l[len(l)-1].V == 1 {
		b.inner[e] = b.instance(i)
	}
	return b.inner[e].step(l[:len(n.In)], n.Out)
}

// cell returns the cell of an occurrence that is executed, for the cells of its arguments.
func (b *body) cell(e *api.Expr, l []api.Cell) api.Cell {
	first := b.count[e] == 0
	switch e.Kind {
	case api.EConst:
		return api.Cell{Kind: api.Present, V: e.V}
	case api.EVar:
		return b.variable(e.Name)
	case api.EOp:
		return value.Lift(e.Op, l...)
	case api.EPre:
		if first {
			return api.Cell{Kind: api.Undef}
		}
		return b.kept[e]
	case api.EFby:
		if !first {
			return b.kept[e]
		}
	case api.EArrow:
		if !first {
			return l[1]
		}
	case api.EIf:
		return chosen(l[0], l[2], l[1])
	case api.EMerge:
		return chosen(b.variable(e.Name), l...)
	case api.EWord:
		w, _ := bword.Parse(e.Name)
		if bword.At(w, b.count[e]) {
			return api.Cell{Kind: api.Present, V: 1}
		}
		return api.Cell{Kind: api.Present}
	}
	return l[0]
}

// chosen returns the cell for the value of c.
func chosen(c api.Cell, l ...api.Cell) api.Cell {
	if c.Kind == api.Undef {
		return c
	}
	return l[c.V]
}
