package norm

import (
	"slices"

	"synchrony/api"
	"synchrony/clone"
	"synchrony/scope"
	"synchrony/types"
)

// splitter splits the equations of a node of an accepted program.
type splitter struct {
	program api.Program
	node    int // its index in the program
	fresh   func(base string) string
	added   map[string]int // the added variables, and their types
	eqs     []api.NEq      // the result, as far as it is built
}

// split returns the normal form of a node of a plain program. The added variables get their names from fresh.
func split(p api.Program, node int, fresh func(base string) string) api.NNode {
	s := &splitter{program: p, node: node, fresh: fresh, added: map[string]int{}}
	n := p.Nodes[node]
	clocks := map[string][]api.On{}
	for _, d := range scope.Vars(n) {
		clocks[d.Name] = d.Clock
	}
	for _, x := range n.Eqs {
		ck := clocks[x.Left[0]]
		s.append(s.equation(x.Right, ck), ck, x.Left...)
	}
	return api.NNode{Name: n.Name, In: n.In, Out: n.Out, Locals: append(n.Locals, s.locals()...), Eqs: s.eqs}
}

// append adds an equation on a clock.
func (s *splitter) append(x api.NEq, ck []api.On, left ...string) {
	x.Left, x.Clock = slices.Clone(left), slices.Clone(ck)
	s.eqs = append(s.eqs, x)
}

// add adds a variable of a type on a clock, and the equation that defines it.
func (s *splitter) add(t int, x api.NEq, ck []api.On) api.Expr {
	name := s.fresh("aux")
	s.added[name] = t
	s.append(x, ck, name)
	return variable(name)
}

// locals declares the added variables. Each one was defined when it was added, so that the equations have their order.
func (s *splitter) locals() []api.Decl {
	var l []api.Decl
	for _, x := range s.eqs {
		name := x.Left[0]
		if t, ok := s.added[name]; ok {
			l = append(l, api.Decl{Name: name, Type: t, Clock: slices.Clone(x.Clock)})
		}
	}
	return l
}

// typeOf returns the type of an expression of the program with one result.
func (s *splitter) typeOf(e api.Expr) int {
	l, _ := types.Of(s.program, s.node, e)
	return l[0]
}

// equation returns the equation, without left side and clock, of a variable that is e on the clock ck.
func (s *splitter) equation(e api.Expr, ck []api.On) api.NEq {
	switch e.Kind {
	case api.EPre:
		return delay(0, s.atom(e.Args[0], ck))
	case api.EFby:
		if first := e.Args[0]; first.Kind == api.EConst {
			return delay(first.V, s.atom(e.Args[1], ck))
		}
	case api.ECall:
		return s.call(e, ck)
	case api.EWord:
		return word(e.Name)
	}
	return definition(s.control(e, ck))
}

func (s *splitter) call(e api.Expr, ck []api.On) api.NEq {
	inputs := len(e.Args) - e.V
	x := api.NEq{Kind: api.NCall, Node: e.Name, Args: s.simples(e.Args[:inputs], ck)}
	for _, reset := range e.Args[inputs:] {
		r := s.simple(reset, ck)
		if r.Kind != api.EVar {
			r = s.add(api.TBool, definition(r), ck)
		}
		x.Every = r.Name
	}
	return x
}

func (s *splitter) control(e api.Expr, ck []api.On) api.Expr {
	if e.Kind != api.EMerge {
		return s.simple(e, ck)
	}
	r := api.Expr{Kind: e.Kind, Name: e.Name, T: e.T}
	for i, a := range e.Args {
		on := api.On{Name: e.Name, T: e.T, Tag: i}
		r.Args = append(r.Args, s.control(a, append(slices.Clone(ck), on)))
	}
	return r
}

func (s *splitter) atom(e api.Expr, ck []api.On) api.Expr {
	r := s.simple(e, ck)
	if !atomic(r) {
		r = s.add(s.typeOf(e), definition(r), ck)
	}
	return r
}

func (s *splitter) simples(l []api.Expr, ck []api.On) []api.Expr {
	return clone.Map(l, func(e api.Expr) api.Expr { return s.simple(e, ck) })
}

func (s *splitter) simple(e api.Expr, ck []api.On) api.Expr {
	switch e.Kind {
	case api.EConst:
		return constant(e.T, e.V)
	case api.EVar:
		return variable(e.Name)
	case api.EOp, api.EIf:
		return api.Expr{Kind: e.Kind, Op: e.Op, Args: s.simples(e.Args, ck)}
	case api.EWhen:
		a := s.atom(e.Args[0], ck[:len(ck)-1])
		return api.Expr{Kind: e.Kind, Name: e.Name, T: e.T, V: e.V, Args: []api.Expr{a}}
	case api.EArrow:
		l := s.simples(e.Args, ck)
		return choice(s.first(ck), l[0], l[1])
	case api.EFby:
		if e.Args[0].Kind != api.EConst {
			return s.followed(e, ck)
		}
	}
	x := s.equation(e, ck)
	return s.add(s.typeOf(e), x, ck)
}

// followed is for an EFby whose first argument is no constant.
func (s *splitter) followed(e api.Expr, ck []api.On) api.Expr {
	a := s.simple(e.Args[0], ck)
	r := s.atom(e.Args[1], ck)
	f := s.first(ck)
	d := s.add(s.typeOf(e), delay(0, r), ck)
	return choice(f, a, d)
}

// first adds a variable that is true at the first instant of a clock only.
func (s *splitter) first(ck []api.On) api.Expr {
	return s.add(api.TBool, delay(1, constant(api.TBool, 0)), ck)
}
