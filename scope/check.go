package scope

import "synchrony/api"

// The kinds of names that a whole program shares. Names of different kinds have nothing to do with one another.
const (
	ofType = iota
	ofTag
	ofNode
)

// symbol is a name of one kind.
type symbol struct {
	kind int
	name string
}

// The levels of variables. The locals of a state are one level above those of the node or state around it. What sees the variables of a level also sees those of all lower levels.
const (
	inputs = iota
	outputs
	locals
)

// checker checks the names of a node.
type checker struct {
	nodes   []api.Node
	known   map[symbol]int  // the types, the tags and the nodes so far, with their indices
	vars    map[string]int  // the levels of the variables that are declared so far
	defined map[string]bool // the inputs, and the variables that are defined so far
}

// newChecker returns a checker of one of the nodes, for which these names are known.
func newChecker(nodes []api.Node, known map[symbol]int) checker {
	return checker{nodes, known, map[string]int{}, map[string]bool{}}
}

// first returns the error of the first element that has one.
func first[T any](l []T, check func(x T) api.Errno) api.Errno {
	for _, x := range l {
		if e := check(x); e != api.OK {
			return e
		}
	}
	return api.OK
}

// add makes a name known, unless it is already.
func (c checker) add(x symbol, index int) api.Errno {
	if _, twice := c.known[x]; twice {
		return api.ErrTwice
	}
	c.known[x] = index
	return api.OK
}

func (c checker) enums(l []api.Enum) api.Errno {
	for i, x := range l {
		if e := c.add(symbol{ofType, x.Name}, i); e != api.OK {
			return e
		}
		for v, tag := range x.Tags {
			if e := c.add(symbol{ofTag, tag}, v); e != api.OK {
				return e
			}
		}
	}
	return api.OK
}

// node returns the error of a node, and the index of the equation that has it, or -1.
func (c checker) node(n api.Node) (int, api.Errno) {
	if e := c.head(n); e != api.OK {
		return -1, e
	}
	for i, x := range n.Eqs {
		if e := c.equation(locals)(x); e != api.OK {
			return i, e
		}
	}
	if e := first(n.Autos, c.automaton(locals)); e != api.OK {
		return -1, e
	}
	if e := c.claims(n); e != api.OK {
		return -1, e
	}
	if e := first(n.Out, c.isDefined); e != api.OK {
		return -1, e
	}
	return -1, first(n.Locals, c.isDefined)
}

// head returns the error of the name or the declarations of a node.
func (c checker) head(n api.Node) api.Errno {
	if _, twice := c.known[symbol{ofNode, n.Name}]; twice {
		return api.ErrTwice
	}
	for level, l := range [...][]api.Decl{inputs: n.In, outputs: n.Out, locals: n.Locals} {
		if e := first(l, c.declare(level)); e != api.OK {
			return e
		}
	}
	for _, d := range n.In {
		c.defined[d.Name] = true
	}
	return first(n.Locals, c.clock(locals))
}

// claims returns the error of an assumption or a guarantee.
func (c checker) claims(n api.Node) api.Errno {
	if e := first(n.Assume, c.single(inputs)); e != api.OK {
		return e
	}
	return first(n.Ensure, c.single(outputs))
}

// declare returns the check of a declaration, whose variable is visible from then on.
func (c checker) declare(level int) func(d api.Decl) api.Errno {
	return func(d api.Decl) api.Errno {
		_, twice := c.vars[d.Name]
		if _, tag := c.known[symbol{ofTag, d.Name}]; tag || twice {
			return api.ErrTwice
		}
		c.vars[d.Name] = level
		return api.OK
	}
}

// clock returns the check of the samplings of a declaration.
func (c checker) clock(level int) func(d api.Decl) api.Errno {
	return func(d api.Decl) api.Errno {
		return first(d.Clock, func(x api.On) api.Errno { return c.sees(x.Name, level) })
	}
}

// sees returns an error unless a variable up to this level has the name.
func (c checker) sees(name string, level int) api.Errno {
	if l, ok := c.vars[name]; !ok || l > level {
		return api.ErrName
	}
	return api.OK
}

// isDefined returns an error unless the variable of a declaration is defined so far.
func (c checker) isDefined(d api.Decl) api.Errno {
	if !c.defined[d.Name] {
		return api.ErrNone
	}
	return api.OK
}

// equation returns the check of an equation, whose variables on the left are defined from then on.
func (c checker) equation(level int) func(x api.Eq) api.Errno {
	return func(x api.Eq) api.Errno {
		for _, name := range x.Left {
			if e := c.sees(name, level); e != api.OK {
				return e
			}
			if c.defined[name] {
				return api.ErrTwice
			}
			c.defined[name] = true
		}
		return c.expr(x.Right, level, len(x.Left))
	}
}

// single returns the check of an expression that has one result.
func (c checker) single(level int) func(e api.Expr) api.Errno {
	return func(e api.Expr) api.Errno { return c.expr(e, level, 1) }
}

// expr returns the first error in e, in preorder, where e itself must have so many results if it is a call.
func (c checker) expr(e api.Expr, level, results int) api.Errno {
	if err := c.named(e, level, results); err != api.OK {
		return err
	}
	return first(e.Args, c.single(level))
}

// named returns the error of e itself, apart from its arguments.
func (c checker) named(e api.Expr, level, results int) api.Errno {
	switch e.Kind {
	case api.EVar, api.EWhen, api.EMerge:
		return c.sees(e.Name, level)
	case api.ECall:
		i, ok := c.known[symbol{ofNode, e.Name}]
		if !ok {
			return api.ErrName
		}
		if n := c.nodes[i]; len(e.Args) != len(n.In)+e.V || len(n.Out) != results {
			return api.ErrArity
		}
	}
	return api.OK
}
