package scope

import (
	"slices"

	"synchrony/api"
)

// automaton returns the check of an automaton in a node or state whose locals are of this level. What its states define is defined from then on.
func (c checker) automaton(level int) func(a api.Auto) api.Errno {
	return func(a api.Auto) api.Errno {
		if repeats(a.States) {
			return api.ErrTwice
		}
		if e := first(a.States, c.state(level+1)); e != api.OK {
			return e
		}
		names := definedBy(a.States[0])
		for _, s := range a.States[1:] {
			if !equalSets(names, definedBy(s)) {
				return api.ErrNone
			}
		}
		for _, name := range names {
			c.defined[name] = true
		}
		return api.OK
	}
}

// repeats reports whether two of the states have the same name.
func repeats(l []api.State) bool {
	seen := map[string]bool{}
	for _, s := range l {
		seen[s.Name] = true
	}
	return len(seen) < len(l)
}

// equalSets reports whether two lists, in each of which no name is repeated, have the same names.
func equalSets(a, b []string) bool {
	return slices.Equal(slices.Sorted(slices.Values(a)), slices.Sorted(slices.Values(b)))
}

// state returns the check of a state whose locals are of this level.
func (c checker) state(level int) func(s api.State) api.Errno {
	return func(s api.State) api.Errno {
		if e := c.body(s, level); e != api.OK {
			return e
		}
		if e := first(s.Unless, c.transition(level-1)); e != api.OK {
			return e
		}
		if e := first(s.Until, c.transition(level)); e != api.OK {
			return e
		}
		if e := first(s.Locals, c.isDefined); e != api.OK {
			return e
		}
		c.leave(s)
		return api.OK
	}
}

// body returns the error of the locals, the equations or the automata of a state.
func (c checker) body(s api.State, level int) api.Errno {
	if e := first(s.Locals, c.declare(level)); e != api.OK {
		return e
	}
	if e := first(s.Locals, c.clock(level)); e != api.OK {
		return e
	}
	if e := first(s.Eqs, c.equation(level)); e != api.OK {
		return e
	}
	return first(s.Autos, c.automaton(level))
}

func (c checker) transition(level int) func(x api.Trans) api.Errno {
	return func(x api.Trans) api.Errno { return c.expr(x.Cond, level, 1) }
}

// leave takes back what a state declares and defines, for the next state defines the same variables.
func (c checker) leave(s api.State) {
	for _, name := range definitions(s.Eqs, s.Autos) {
		delete(c.defined, name)
	}
	for _, d := range s.Locals {
		delete(c.vars, d.Name)
	}
}
