package sim

import (
	"synchrony/api"
	"synchrony/bword"
	"synchrony/value"
)

// clock is a clock that is not the base clock: its last sampling, and the clock without it.
type clock struct {
	outer *clock
	slot  int
	tag   int
}

// occurrence is an occurrence of an expression in a node.
type occurrence struct {
	clock   *clock
	args    []*occurrence
	first   int                                          // the slot of the first argument
	delayed int                                          // the index of the argument that is executed when all variables are known, or -1
	keep    work                                         // executes that argument
	cell    func(in *instance, args []api.Cell) api.Cell // returns its cell when it is executed
	call    *call                                        // the occurrence itself, if it is a call
}

// execute returns the cell of an occurrence at an instant. The arguments of a sampling may be executed even if it is not.
func (o *occurrence) execute(in *instance) api.Cell {
	args := in.cells[o.first : o.first+len(o.args)]
	for i, a := range o.args {
		if i == o.delayed {
			in.add(keeping, o.keep)
		} else {
			args[i] = a.execute(in)
		}
	}
	if !in.active(o.clock) {
		return api.Cell{}
	}
	return o.cell(in, args)
}

// equation defines variables.
type equation struct {
	left  []int
	right *occurrence
}

func (x *equation) execute(in *instance) {
	in.cells[x.left[0]] = x.right.execute(in)
	for i, slot := range x.left[1:] {
		in.cells[slot] = api.Cell{}
		if in.active(x.right.clock) {
			in.cells[slot] = in.inner[x.right.call.place].outputs()[i+1]
		}
	}
}

// constant is an EConst.
type constant api.Cell

func (c constant) cell(*instance, []api.Cell) api.Cell { return api.Cell(c) }

// variable is an EVar: its slot.
type variable int

func (v variable) cell(in *instance, _ []api.Cell) api.Cell { return in.cells[v] }

// operator is an EOp.
type operator int

func (op operator) cell(_ *instance, args []api.Cell) api.Cell { return value.Lift(int(op), args...) }

// choice is an EIf.
func choice(_ *instance, args []api.Cell) api.Cell {
	switch c := args[0]; {
	case c.Kind == api.Undef:
		return c
	case c == truth:
		return args[1]
	}
	return args[2]
}

// sampling is an EWhen.
func sampling(_ *instance, args []api.Cell) api.Cell { return args[0] }

// selection is an EMerge: the slot of its variable.
type selection int

func (s selection) cell(in *instance, args []api.Cell) api.Cell {
	if c := in.cells[s]; c.Kind == api.Present {
		return args[c.V]
	}
	return in.cells[s]
}

// delay is an EPre, EArrow or EFby: the index of its memory.
type delay int

// pre returns what was kept when it was executed last.
func (d delay) pre(in *instance, _ []api.Cell) api.Cell {
	if m := in.kept[d]; m.count > 0 {
		return m.cell
	}
	return api.Cell{Kind: api.Undef}
}

func (d delay) fby(in *instance, args []api.Cell) api.Cell {
	if m := in.kept[d]; m.count > 0 {
		return m.cell
	}
	return args[0]
}

func (d delay) arrow(in *instance, args []api.Cell) api.Cell {
	m := &in.kept[d]
	m.count++
	if m.count > 1 {
		return args[1]
	}
	return args[0]
}

// keeper executes the argument that is delayed, and keeps its cell for the next execution.
type keeper struct {
	delay delay
	arg   *occurrence
}

func (k *keeper) execute(in *instance) {
	c := k.arg.execute(in)
	if m := &in.kept[k.delay]; in.active(k.arg.clock) {
		*m = memory{1, c}
	}
}

// word is an EWord: the index of its memory, and its letters.
type word struct {
	place   int
	letters api.Word
}

func (w word) cell(in *instance, _ []api.Cell) api.Cell {
	m := &in.kept[w.place]
	m.count++
	if bword.At(w.letters, m.count-1) {
		return truth
	}
	return api.Cell{Kind: api.Present}
}

// call is an ECall: the index of its instance, and what that executes.
type call struct {
	place  int
	plan   *plan
	resets bool // whether there is a reset condition, as the last argument
}

func (c *call) cell(in *instance, args []api.Cell) api.Cell {
	callee := in.inner[c.place]
	n := len(c.plan.in)
	switch {
	case callee == nil:
		callee = newInstance(c.plan)
		in.inner[c.place] = callee
	case c.resets && args[n] == truth:
		callee.reset()
	}
	callee.step(args[:n])
	return callee.outputs()[0]
}
