package sim

import (
	"synchrony/api"
	"synchrony/value"
)

// Kinds of pending work of an instant, in the order in which it is done.
const (
	defining = iota // equations, automata and claims, each after those that define what it reads
	deciding        // the transitions that tell the next states of automata
	keeping         // the arguments of delays, which may read any variable
	kindsOfWork
)

// work is a part of what an instance does at an instant.
type work func(in *instance)

var truth = api.Cell{Kind: api.Present, V: 1}

// memory is what an occurrence keeps: how often it was executed, and the cell that it delays.
type memory struct {
	count int
	cell  api.Cell
}

// mode is what an automaton keeps: the index of its state, and whether that restarts.
type mode struct {
	state   int
	restart bool
}

// instance is an instance of a node. In its initial state all that it keeps is zero.
type instance struct {
	plan    *plan
	cells   []api.Cell // of the variables, claims and arguments, at the last instant
	kept    []memory
	inner   []*instance // of the calls; nil as long as a call was not executed
	modes   []mode
	pending [kindsOfWork][]work
}

func newInstance(p *plan) *instance {
	return &instance{
		plan:  p,
		cells: make([]api.Cell, p.size.cells),
		kept:  make([]memory, p.size.kept),
		inner: make([]*instance, p.size.inner),
		modes: make([]mode, p.size.modes),
	}
}

// clone returns an independent instance in the same state. Between instants there is no pending work.
func (in *instance) clone() *instance {
	c := newInstance(in.plan)
	copy(c.cells, in.cells)
	copy(c.kept, in.kept)
	copy(c.modes, in.modes)
	for i, x := range in.inner {
		if x != nil {
			c.inner[i] = x.clone()
		}
	}
	return c
}

// reset returns to the initial state.
func (in *instance) reset() { in.resetPart(size{}, in.plan.size) }

// resetPart returns what a part of the node keeps to the initial state.
func (in *instance) resetPart(from, to size) {
	clear(in.kept[from.kept:to.kept])
	clear(in.inner[from.inner:to.inner])
	clear(in.modes[from.modes:to.modes])
}

// step executes an instant.
func (in *instance) step(inputs []api.Cell) {
	copy(in.cells, inputs)
	in.pending[defining] = append(in.pending[defining], in.plan.work...)
	for kind := range in.pending {
		for i := 0; i < len(in.pending[kind]); i++ { // work may add further work of its kind, and of later ones
			in.pending[kind][i](in)
		}
		in.pending[kind] = in.pending[kind][:0]
	}
}

// add adds pending work.
func (in *instance) add(kind int, w work) { in.pending[kind] = append(in.pending[kind], w) }

// outputs returns the cells of the outputs at the last instant.
func (in *instance) outputs() []api.Cell {
	first := len(in.plan.in)
	return in.cells[first : first+len(in.plan.out)]
}

// conjunction returns the conjunction of claims at the last instant.
func (in *instance) conjunction(claims []*equation) api.Cell {
	all := truth
	for _, x := range claims {
		all = value.Lift(api.OpAnd, all, in.cells[x.left[0]])
	}
	return all
}

// active reports whether a clock is active at this instant.
func (in *instance) active(ck *clock) bool {
	for ; ck != nil; ck = ck.outer {
		if in.cells[ck.slot] != (api.Cell{Kind: api.Present, V: ck.tag}) {
			return false
		}
	}
	return true
}
