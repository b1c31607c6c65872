package samples

import (
	"slices"
	"strconv"

	"synchrony/api"
	"synchrony/value"
)

const someEnum = api.TEnum // the enumeration of these programs, which has three tags

// source makes programs with automata, node by node.
type source struct {
	choose Choose
	api.Program
	names int        // how many names there are
	autos int        // how many automata there may still be
	pres  int        // how often there is an EPre behind no EArrow, of 10 times
	pure  bool       // whether the expression must be stateless
	now   []api.Decl // the variables that the expression may read
	later []api.Decl // and those that it may read in a delay
}

// Source returns a program that the interpreter executes, with at most so many automata. Of 10 places where an EPre behind no EArrow could be, there is one in about pres; without them no cell is undefined, and the program is accepted.
func Source(choose Choose, autos, pres int) api.Program {
	m := &source{choose: choose, autos: autos, pres: pres, Program: api.Program{Enums: Enums()[:1]}}
	for range 1 + choose(3) {
		m.Nodes = append(m.Nodes, m.node())
	}
	return m.Program
}

func (m *source) name(base string) string {
	m.names++
	return base + strconv.Itoa(m.names)
}

// node returns a node, whose outputs are some of the variables that it defines on the base clock.
func (m *source) node() api.Node {
	n := api.Node{Name: m.name("f")}
	for range m.choose(4) {
		n.In = append(n.In, m.decl(nil))
	}
	vars := m.decls(n.In, 2+m.choose(6))
	vars = append(vars, m.decl(nil))
	for i, d := range vars {
		if len(d.Clock) == 0 && (m.choose(3) == 0 || i == len(vars)-1) {
			n.Out = append(n.Out, d)
		} else {
			n.Locals = append(n.Locals, d)
		}
	}
	m.now, m.later = n.In, slices.Concat(n.In, vars)
	n.Eqs, n.Autos = m.body(vars, m.choose(api.MaxNest+1))
	for range m.choose(3) {
		m.now, m.later = n.In, n.In
		n.Assume = append(n.Assume, m.expr(api.TBool, nil, 2))
		m.now, m.later = slices.Concat(n.In, n.Out), slices.Concat(n.In, n.Out)
		n.Ensure = append(n.Ensure, m.expr(api.TBool, nil, 2))
	}
	return n
}

func (m *source) decl(ck []api.On) api.Decl {
	return api.Decl{Name: m.name("v"), Type: pick(m.choose, api.TBool, api.TBool, api.TInt, api.TInt, someEnum), Clock: slices.Clone(ck)}
}

// decls returns n declarations, each one on the base clock or a clock that variables before it permit.
func (m *source) decls(before []api.Decl, n int) []api.Decl {
	var l []api.Decl
	for range n {
		var ck []api.On
		if by := slices.DeleteFunc(slices.Concat(before, l), func(d api.Decl) bool { return d.Type == api.TInt }); len(by) > 0 && m.choose(2) == 0 {
			d := pick(m.choose, by...)
			ck = d.Clock
			if len(ck) < api.MaxClock-1 {
				ck = longer(ck, d, m.value(d.Type))
			}
		}
		l = append(l, m.decl(ck))
	}
	return l
}

// value returns a value of a type, a small one of the type int.
func (m *source) value(t int) int {
	if t == api.TInt {
		return m.choose(9) - 4
	}
	return m.choose(value.Size(m.Enums, t))
}

func onBase(l []api.Decl) []api.Decl {
	return slices.DeleteFunc(slices.Clone(l), func(d api.Decl) bool { return len(d.Clock) > 0 })
}

// body returns equations and automata, in any order, that define the variables, each one by those before it.
func (m *source) body(vars []api.Decl, nest int) ([]api.Eq, []api.Auto) {
	var eqs []api.Eq
	var autos []api.Auto
	for len(vars) > 0 {
		k := min(1+m.choose(3), len(vars))
		if nest > 0 && m.autos > 0 && len(onBase(vars[:k])) == k && m.choose(2) == 0 {
			m.autos--
			autos = append(autos, m.auto(vars[:k], nest-1))
		} else {
			eqs = append(eqs, m.equation(vars))
			k = len(eqs[len(eqs)-1].Left)
		}
		m.now = slices.Concat(m.now, vars[:k])
		vars = vars[k:]
	}
	shuffle(m.choose, eqs)
	shuffle(m.choose, autos)
	return eqs, autos
}

// equation returns an equation that defines the first of the variables, or several ones by a call.
func (m *source) equation(vars []api.Decl) api.Eq {
	d := vars[0]
	for _, n := range m.Nodes {
		fits := func(out, v api.Decl) bool { return out.Type == v.Type && slices.Equal(v.Clock, d.Clock) }
		if k := len(n.Out); k > 1 && k <= len(vars) && slices.EqualFunc(n.Out, vars[:k], fits) {
			var left []string
			for _, v := range vars[:k] {
				left = append(left, v.Name)
			}
			return api.Eq{Left: left, Right: m.call(n, d.Clock, 2)}
		}
	}
	return api.Eq{Left: []string{d.Name}, Right: m.expr(d.Type, d.Clock, 1+m.choose(3))}
}

// auto returns an automaton that defines the variables, by those on the base clock.
func (m *source) auto(vars []api.Decl, nest int) api.Auto {
	defer func(now, later []api.Decl) { m.now, m.later = now, later }(m.now, m.later)
	outer := onBase(m.now)
	a := api.Auto{States: make([]api.State, 1+m.choose(3))}
	for i := range a.States {
		s := api.State{Name: m.name("S")}
		m.now, m.pure = outer, true
		s.Unless = m.transitions(len(a.States))
		m.pure = false
		s.Locals = m.decls(outer, m.choose(3))
		m.later = slices.Concat(outer, vars, s.Locals)
		all := slices.Clone(s.Locals)
		for _, v := range vars {
			all = slices.Insert(all, m.choose(len(all)+1), v)
		}
		s.Eqs, s.Autos = m.body(all, nest)
		s.Until = m.transitions(len(a.States))
		a.States[i] = s
	}
	return a
}

func (m *source) transitions(states int) []api.Trans {
	var l []api.Trans
	for range m.choose(3) {
		l = append(l, api.Trans{Cond: m.expr(api.TBool, nil, 2), To: m.choose(states), Resume: m.choose(2) == 0})
	}
	return l
}

// call returns a call of n, with a reset condition or without one.
func (m *source) call(n api.Node, ck []api.On, depth int) api.Expr {
	e := api.Expr{Kind: api.ECall, Name: n.Name, V: m.choose(2)}
	for _, d := range n.In {
		e.Args = append(e.Args, m.expr(d.Type, ck, depth-1))
	}
	if e.V == 1 {
		e.Args = append(e.Args, m.expr(api.TBool, ck, depth-1))
	}
	return e
}

// leaf returns a variable, a word or a constant.
func (m *source) leaf(t int, ck []api.On) api.Expr {
	if l := of(m.now, t, ck); len(l) > 0 && m.choose(6) > 0 {
		return api.Expr{Kind: api.EVar, Name: pick(m.choose, l...).Name}
	}
	if t == api.TBool && !m.pure && m.choose(3) > 0 {
		return api.Expr{Kind: api.EWord, Name: pick(m.choose, "0(1)", "1(01)", "(110)", "(100)")}
	}
	return api.Expr{Kind: api.EConst, T: t, V: m.value(t)}
}

// expr returns an expression of a type that fits a clock.
func (m *source) expr(t int, ck []api.On, depth int) api.Expr {
	if depth <= 0 {
		return m.leaf(t, ck)
	}
	same := func() api.Expr { return m.expr(t, ck, depth-1) }
	kinds := []int{api.EOp, api.EOp, api.EIf, api.EWhen, api.EMerge}
	if !m.pure {
		kinds = append(kinds, api.EArrow, api.EFby, api.EFby, api.ECall, api.ECall)
		if m.choose(10) < m.pres {
			kinds = append(kinds, api.EPre)
		}
	}
	switch kind := pick(m.choose, kinds...); kind {
	case api.EIf:
		return api.Expr{Kind: kind, Args: []api.Expr{m.expr(api.TBool, ck, depth-1), same(), same()}}
	case api.EArrow:
		e := api.Expr{Kind: kind, Args: []api.Expr{same(), same()}}
		if m.choose(2) == 0 {
			e.Args[1] = api.Expr{Kind: api.EPre, Args: []api.Expr{m.delayed(t, ck, depth-1)}}
		}
		return e
	case api.EFby:
		return api.Expr{Kind: kind, Args: []api.Expr{same(), m.delayed(t, ck, depth-1)}}
	case api.EPre:
		return api.Expr{Kind: kind, Args: []api.Expr{m.delayed(t, ck, depth-1)}}
	case api.EMerge:
		return m.merge(t, ck, depth-1)
	case api.EWhen:
		if k := len(ck) - 1; k >= 0 {
			return api.Expr{Kind: kind, Name: ck[k].Name, T: ck[k].T, V: ck[k].Tag, Args: []api.Expr{m.expr(t, ck[:k], depth-1)}}
		}
	case api.ECall:
		for _, i := range order(m.choose, len(m.Nodes)) {
			if n := m.Nodes[i]; len(n.Out) == 1 && n.Out[0].Type == t {
				return m.call(n, ck, depth)
			}
		}
	}
	return m.operation(t, ck, depth-1)
}

func (m *source) delayed(t int, ck []api.On, depth int) api.Expr {
	defer func(now []api.Decl) { m.now = now }(m.now)
	m.now = m.later
	return m.expr(t, ck, depth)
}

// operation returns an operation with operands of some type, or a leaf, if no operator has results of the type.
func (m *source) operation(t int, ck []api.On, depth int) api.Expr {
	some := func(operands int, operators ...int) api.Expr {
		e := api.Expr{Kind: api.EOp, Op: pick(m.choose, operators...), Args: []api.Expr{m.expr(operands, ck, depth)}}
		if e.Op != api.OpNot && e.Op != api.OpNeg {
			e.Args = append(e.Args, m.expr(operands, ck, depth))
		}
		return e
	}
	switch {
	case t == api.TInt:
		return some(t, api.OpAdd, api.OpAdd, api.OpSub, api.OpMul, api.OpMod, api.OpNeg)
	case t == api.TBool && m.choose(2) == 0:
		return some(t, api.OpAnd, api.OpOr, api.OpXor, api.OpNot)
	case t == api.TBool:
		return some(pick(m.choose, api.TInt, someEnum), api.OpEq, api.OpNe)
	}
	return m.leaf(t, ck)
}

// merge returns a merge, or a leaf, if there can be none on the clock.
func (m *source) merge(t int, ck []api.On, depth int) api.Expr {
	other := func(d api.Decl) bool { return d.Type == api.TInt || !slices.Equal(d.Clock, ck) }
	l := slices.DeleteFunc(slices.Clone(m.now), other)
	if len(l) == 0 || len(ck) == api.MaxClock {
		return m.leaf(t, ck)
	}
	d := pick(m.choose, l...)
	e := api.Expr{Kind: api.EMerge, Name: d.Name, T: d.Type}
	for tag := range value.Size(m.Enums, d.Type) {
		e.Args = append(e.Args, m.expr(t, longer(ck, d, tag), depth))
	}
	return e
}
