package shape

import (
	"synchrony/api"
	"synchrony/expr"
	"synchrony/lex"
	"synchrony/value"
)

// first returns the error of the first element that has one.
func first[T any](l []T, check func(x T) api.Errno) api.Errno {
	for _, x := range l {
		if e := check(x); e != api.OK {
			return e
		}
	}
	return api.OK
}

func checkIdent(s string) api.Errno {
	if !lex.Ident(s) {
		return api.ErrName
	}
	return api.OK
}

func checkEnum(x api.Enum) api.Errno {
	switch {
	case !lex.Ident(x.Name):
		return api.ErrName
	case len(x.Tags) == 0:
		return api.ErrNone
	case len(x.Tags) > api.MaxTags:
		return api.ErrLimit
	}
	return first(x.Tags, checkIdent)
}

// checker checks the parts of a program over its enumerations.
type checker struct {
	enums []api.Enum
}

// node returns the error of a node, and the index of the equation that has it, or -1.
func (c checker) node(n api.Node) (int, api.Errno) {
	if e := c.head(n); e != api.OK {
		return -1, e
	}
	for i, x := range n.Eqs {
		if e := c.equation(x); e != api.OK {
			return i, e
		}
	}
	if e := first(n.Autos, c.automaton(0)); e != api.OK {
		return -1, e
	}
	if e := first(n.Assume, c.expr); e != api.OK {
		return -1, e
	}
	return -1, first(n.Ensure, c.expr)
}

// head returns the error of the name, the sizes or the declarations of a node.
func (c checker) head(n api.Node) api.Errno {
	switch {
	case !lex.Ident(n.Name):
		return api.ErrName
	case len(n.In) > api.MaxPorts, len(n.Out) > api.MaxPorts, len(n.Locals) > api.MaxLocals,
		len(n.Eqs) > api.MaxEqs, len(n.Autos) > api.MaxAutos,
		len(n.Assume) > api.MaxClaims, len(n.Ensure) > api.MaxClaims:
		return api.ErrLimit
	case len(n.Out) == 0:
		return api.ErrNone
	}
	if e := first(n.In, c.port); e != api.OK {
		return e
	}
	if e := first(n.Out, c.port); e != api.OK {
		return e
	}
	return first(n.Locals, c.local)
}

func (c checker) declared(d api.Decl) api.Errno {
	if !lex.Ident(d.Name) {
		return api.ErrName
	}
	if _, ok := value.Name(c.enums, d.Type); !ok {
		return api.ErrType
	}
	return api.OK
}

// port returns the error of the declaration of an input or output.
func (c checker) port(d api.Decl) api.Errno {
	if e := c.declared(d); e != api.OK {
		return e
	}
	if len(d.Clock) > 0 {
		return api.ErrClock
	}
	return api.OK
}

func (c checker) local(d api.Decl) api.Errno {
	if e := c.declared(d); e != api.OK {
		return e
	}
	if len(d.Clock) > api.MaxClock {
		return api.ErrLimit
	}
	return first(d.Clock, c.sampling)
}

func (c checker) sampling(x api.On) api.Errno {
	switch {
	case !lex.Ident(x.Name):
		return api.ErrName
	case x.T == api.TInt || !value.Has(c.enums, x.T, x.Tag):
		return api.ErrForm
	}
	return api.OK
}

func (c checker) equation(x api.Eq) api.Errno {
	switch {
	case len(x.Left) == 0:
		return api.ErrNone
	case len(x.Left) > api.MaxPorts:
		return api.ErrLimit
	}
	if e := first(x.Left, checkIdent); e != api.OK {
		return e
	}
	if e := c.expr(x.Right); e != api.OK {
		return e
	}
	if len(x.Left) > 1 && x.Right.Kind != api.ECall {
		return api.ErrForm
	}
	return api.OK
}

// automaton returns the check of an automaton that is nested in nest others.
func (c checker) automaton(nest int) func(a api.Auto) api.Errno {
	return func(a api.Auto) api.Errno {
		switch {
		case nest >= api.MaxNest:
			return api.ErrLimit
		case len(a.States) == 0:
			return api.ErrNone
		case len(a.States) > api.MaxStates:
			return api.ErrLimit
		}
		return first(a.States, c.state(len(a.States), nest))
	}
}

// state returns the check of a state that is one of several, in an automaton that is nested in nest others.
func (c checker) state(states, nest int) func(s api.State) api.Errno {
	return func(s api.State) api.Errno {
		switch {
		case !lex.Ident(s.Name):
			return api.ErrName
		case len(s.Locals) > api.MaxLocals, len(s.Eqs) > api.MaxEqs, len(s.Autos) > api.MaxAutos,
			len(s.Unless) > api.MaxTrans, len(s.Until) > api.MaxTrans:
			return api.ErrLimit
		}
		if e := first(s.Locals, c.local); e != api.OK {
			return e
		}
		if e := first(s.Eqs, c.equation); e != api.OK {
			return e
		}
		if e := first(s.Autos, c.automaton(nest+1)); e != api.OK {
			return e
		}
		if e := first(s.Unless, c.unless(states)); e != api.OK {
			return e
		}
		return first(s.Until, c.transition(states))
	}
}

// transition returns the check of a transition to one of several states.
func (c checker) transition(states int) func(x api.Trans) api.Errno {
	return func(x api.Trans) api.Errno {
		if x.To < 0 || x.To >= states {
			return api.ErrRange
		}
		return c.expr(x.Cond)
	}
}

func (c checker) unless(states int) func(x api.Trans) api.Errno {
	check := c.transition(states)
	return func(x api.Trans) api.Errno {
		if e := check(x); e != api.OK {
			return e
		}
		if !expr.Stateless(x.Cond) {
			return api.ErrForm
		}
		return api.OK
	}
}

func (c checker) expr(e api.Expr) api.Errno {
	if err := expr.Check(e); err != api.OK {
		return err
	}
	return c.within(e)
}

// within returns the first error over the enumerations of an expression in e, in preorder.
func (c checker) within(e api.Expr) api.Errno {
	if err := c.typed(e); err != api.OK {
		return err
	}
	return first(e.Args, c.within)
}

// typed returns the error over the enumerations of e itself, apart from its arguments.
func (c checker) typed(e api.Expr) api.Errno {
	switch e.Kind {
	case api.EConst, api.EWhen, api.EMerge:
	default:
		return api.OK
	}
	size := value.Size(c.enums, e.T)
	switch {
	case size == 0:
		return api.ErrType
	case e.Kind == api.EMerge && len(e.Args) != size:
		return api.ErrArity
	case e.Kind != api.EMerge && !value.Has(c.enums, e.T, e.V):
		return api.ErrRange
	}
	return api.OK
}
