package sim

import (
	"maps"
	"slices"

	"synchrony/api"
	"synchrony/bword"
	"synchrony/expr"
	"synchrony/scope"
)

// visible is a variable that is visible in a body.
type visible struct {
	slot  int
	clock *clock
}

// body is the body of a node or of a state while its plan is made.
type body struct {
	*planner
	size *size // what the node needs so far
	vars map[string]visible
}

// take returns the first of n further numbers, of which count tells how many there are.
func take(count *int, n int) int {
	*count += n
	return *count - n
}

// declare makes variables visible. Any of them may occur in their clocks.
func (b body) declare(l []api.Decl) {
	for _, d := range l {
		b.vars[d.Name] = visible{slot: take(&b.size.cells, 1)}
	}
	for _, d := range l {
		v := b.vars[d.Name]
		for _, on := range d.Clock {
			v.clock = &clock{v.clock, b.vars[on.Name].slot, on.Tag}
		}
		b.vars[d.Name] = v
	}
}

// slots returns the slots of those of the names that are visible.
func (b body) slots(names []string) []int {
	var l []int
	for _, name := range names {
		if v, ok := b.vars[name]; ok {
			l = append(l, v.slot)
		}
	}
	return l
}

// work returns the work that defines variables.
func (b body) work(eqs []api.Eq, autos []api.Auto) []work {
	var parts []part
	for _, x := range eqs {
		parts = append(parts, b.equation(x))
	}
	for _, a := range autos {
		parts = append(parts, b.automaton(a))
	}
	return ordered(parts)
}

func (b body) equation(x api.Eq) part {
	ck := b.vars[x.Left[0]].clock
	eq := &equation{left: b.slots(x.Left), right: b.occurrence(x.Right, ck)}
	reads := b.slots(expr.Instant(x.Right))
	for ; ck != nil; ck = ck.outer {
		reads = append(reads, ck.slot)
	}
	return part{eq.left, reads, eq.execute}
}

// claims returns equations of claims, with slots of their own.
func (b body) claims(l []api.Expr) []*equation {
	var eqs []*equation
	for _, e := range l {
		eqs = append(eqs, &equation{left: []int{take(&b.size.cells, 1)}, right: b.occurrence(e, nil)})
	}
	return eqs
}

func (b body) automaton(x api.Auto) part {
	a := &automaton{place: take(&b.size.modes, 1)}
	for _, s := range x.States {
		a.states = append(a.states, b.state(s))
	}
	defined := scope.Defined(api.Node{Autos: []api.Auto{x}})
	return part{b.slots(defined), b.slots(readBy(x)), a.execute}
}

func (b body) state(x api.State) state {
	s := state{unless: b.transitions(x.Unless), from: *b.size}
	b.vars = maps.Clone(b.vars)
	b.declare(x.Locals)
	s.work = b.work(x.Eqs, x.Autos)
	s.until = b.transitions(x.Until)
	s.to = *b.size
	return s
}

func (b body) transitions(l []api.Trans) []transition {
	var transitions []transition
	for _, x := range l {
		transitions = append(transitions, transition{b.occurrence(x.Cond, nil), mode{x.To, !x.Resume}})
	}
	return transitions
}

// readBy returns the names that occur in an automaton. Its body reads all of them at the same instant, even those in delays.
func readBy(a api.Auto) []string {
	var l []string
	read := func(e api.Expr) { l = append(l, expr.Names(e)...) }
	for _, s := range a.States {
		for _, d := range s.Locals {
			for _, on := range d.Clock {
				l = append(l, on.Name)
			}
		}
		for _, x := range s.Eqs {
			read(x.Right)
		}
		for _, x := range slices.Concat(s.Unless, s.Until) {
			read(x.Cond)
		}
		for _, inner := range s.Autos {
			l = append(l, readBy(inner)...)
		}
	}
	return l
}

// occurrence returns the occurrence of an expression on a clock.
func (b body) occurrence(e api.Expr, ck *clock) *occurrence {
	o := &occurrence{clock: ck, first: take(&b.size.cells, len(e.Args)), delayed: -1}
	for i, arg := range e.Args {
		o.args = append(o.args, b.occurrence(arg, b.argClock(e, i, ck)))
	}
	switch e.Kind {
	case api.EConst:
		o.cell = constant{api.Present, e.V}.cell
	case api.EVar:
		o.cell = variable(b.vars[e.Name].slot).cell
	case api.EOp:
		o.cell = operator(e.Op).cell
	case api.EIf:
		o.cell = choice
	case api.EPre, api.EArrow, api.EFby:
		b.delay(o, e.Kind)
	case api.EWhen:
		o.cell = sampling
	case api.EMerge:
		o.cell = selection(b.vars[e.Name].slot).cell
	case api.ECall:
		o.call = &call{take(&b.size.inner, 1), b.called(e.Name), e.V == 1}
		o.cell = o.call.cell
	case api.EWord:
		letters, _ := bword.Parse(e.Name)
		o.cell = word{take(&b.size.kept, 1), letters}.cell
	}
	return o
}

// delay completes an occurrence that keeps whether it was executed, or what it delays.
func (b body) delay(o *occurrence, kind int) {
	d := delay(take(&b.size.kept, 1))
	switch kind {
	case api.EArrow:
		o.cell = d.arrow
		return
	case api.EPre:
		o.cell, o.delayed = d.pre, 0
	case api.EFby:
		o.cell, o.delayed = d.fby, 1
	}
	k := &keeper{d, o.args[o.delayed]}
	o.keep = k.execute
}

// argClock returns the clock of the argument i of e, which is on the clock ck.
func (b body) argClock(e api.Expr, i int, ck *clock) *clock {
	switch e.Kind {
	case api.EWhen:
		return ck.outer
	case api.EMerge:
		return &clock{ck, b.vars[e.Name].slot, i}
	}
	return ck
}
