package types

import (
	"synchrony/api"
	"synchrony/scope"
)

// checker checks the types in a node, or in a state of one of its automata.
type checker struct {
	before api.Program // the nodes before this one, which it can call
	env    environment
}

func newChecker(p api.Program, node int) checker {
	return checker{api.Program{Nodes: p.Nodes[:node]}, scope.Vars(p.Nodes[node])}
}

// first returns the error of the first element that has one.
func first[T any](l []T, check func(x T) api.Errno) api.Errno {
	for _, x := range l {
		if e := check(x); e != api.OK {
			return e
		}
	}
	return api.OK
}

// node returns the error of a node, and the index of the equation that has it, or -1.
func (c checker) node(n api.Node) (int, api.Errno) {
	for i, x := range n.Eqs {
		if e := c.equation(x); e != api.OK {
			return i, e
		}
	}
	if e := first(n.Autos, c.automaton); e != api.OK {
		return -1, e
	}
	if e := first(n.Assume, c.condition); e != api.OK {
		return -1, e
	}
	return -1, first(n.Ensure, c.condition)
}

func (c checker) equation(x api.Eq) api.Errno {
	types, err := c.results(x.Right, false)
	switch {
	case err != api.OK:
		return err
	case len(types) != len(x.Left):
		return api.ErrArity
	}
	for i, name := range x.Left {
		t, err := c.env.typeOf(name)
		switch {
		case err != api.OK:
			return err
		case t != types[i]:
			return api.ErrType
		}
	}
	return api.OK
}

func (c checker) automaton(a api.Auto) api.Errno { return first(a.States, c.state) }

func (c checker) state(s api.State) api.Errno {
	if e := first(s.Unless, c.transition); e != api.OK {
		return e
	}
	c.env = c.env.inside(s)
	if e := first(s.Eqs, c.equation); e != api.OK {
		return e
	}
	if e := first(s.Autos, c.automaton); e != api.OK {
		return e
	}
	return first(s.Until, c.transition)
}

func (c checker) transition(x api.Trans) api.Errno { return c.condition(x.Cond) }

func (c checker) condition(e api.Expr) api.Errno {
	types, err := c.results(e, false)
	switch {
	case err != api.OK:
		return err
	case len(types) != 1:
		return api.ErrArity
	case types[0] != api.TBool:
		return api.ErrType
	}
	return api.OK
}
