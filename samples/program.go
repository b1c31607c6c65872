package samples

import (
	"slices"
	"strconv"

	"synchrony/api"
	"synchrony/clone"
	"synchrony/value"
)

// maker makes programs in normal form, in which there is much to simplify.
type maker struct {
	choose Choose
	enums  []api.Enum
	nodes  []api.NNode
	now    []api.Decl // what an expression may read at the same instant
	all    []api.Decl // and what a delay may read
	eqs    []api.NEq
}

// Program returns a program in normal form, its equations in any order.
func Program(choose Choose) api.NProgram {
	m := &maker{choose: choose, enums: Enums()}
	for i := range 1 + choose(3) {
		m.nodes = append(m.nodes, m.node("f"+strconv.Itoa(i)))
	}
	return api.NProgram{Enums: m.enums, Nodes: m.nodes}
}

func (m *maker) node(name string) api.NNode {
	n := api.NNode{Name: name}
	count := 0
	decl := func(ck []api.On) api.Decl {
		count++
		return api.Decl{Name: "v" + strconv.Itoa(count), Type: m.someType(), Clock: slices.Clone(ck)}
	}
	for range 1 + m.choose(3) {
		n.In = append(n.In, decl(nil))
	}
	var vars []api.Decl
	for range 2 + m.choose(12) {
		vars = append(vars, decl(m.clock(slices.Concat(n.In, vars))))
	}
	vars = append(vars, decl(nil))
	for i, d := range vars {
		if len(d.Clock) == 0 && (m.choose(4) == 0 || i == len(vars)-1) {
			n.Out = append(n.Out, d)
		} else {
			n.Locals = append(n.Locals, d)
		}
	}
	m.now, m.all, m.eqs = n.In, slices.Concat(n.In, vars), nil
	for len(vars) > 0 {
		x := m.equation(vars)
		m.eqs = append(m.eqs, x)
		defined := func(d api.Decl) bool { return slices.Contains(x.Left, d.Name) }
		for _, d := range vars {
			if defined(d) {
				m.now = append(slices.Clone(m.now), d)
			}
		}
		vars = slices.DeleteFunc(slices.Clone(vars), defined)
	}
	n.Eqs = clone.Map(m.eqs, clone.NEq)
	shuffle(m.choose, n.Eqs)
	return n
}

func (m *maker) someType() int {
	return pick(m.choose, api.TBool, api.TBool, api.TInt, api.TInt, pick(m.choose, api.TEnum, api.TEnum+m.choose(len(m.enums))))
}

// some returns one of the first values of a type.
func (m *maker) some(t int) int { return m.choose(min(value.Size(m.enums, t), 3)) }

// clock returns the base clock, or one that the variables permit.
func (m *maker) clock(vars []api.Decl) []api.On {
	if d := pick(m.choose, vars...); d.Type != api.TInt && len(d.Clock) < 2 && m.choose(2) == 0 {
		return longer(d.Clock, d, m.choose(value.Size(m.enums, d.Type)))
	}
	return pick(m.choose, vars...).Clock
}

func longer(ck []api.On, d api.Decl, tag int) []api.On {
	return append(slices.Clone(ck), api.On{Name: d.Name, T: d.Type, Tag: tag})
}

// of returns the variables of a type on a clock.
func of(l []api.Decl, t int, ck []api.On) []api.Decl {
	return slices.DeleteFunc(slices.Clone(l), func(d api.Decl) bool { return d.Type != t || !slices.Equal(d.Clock, ck) })
}

// equation returns one that defines the first variable, or some by a call.
func (m *maker) equation(vars []api.Decl) api.NEq {
	d := vars[0]
	x := api.NEq{Kind: api.NDef, Left: []string{d.Name}, Clock: d.Clock}
	switch k := m.choose(10); {
	case k == 0:
		x.Kind, x.Init, x.Right = api.NDelay, m.some(d.Type), m.atom(m.all, d)
	case k < 3:
		return m.call(vars)
	case k == 3 && d.Type == api.TBool:
		x.Kind, x.Node = api.NWord, pick(m.choose, "(10)", "1(01)", "011(0)", "(1)")
	case k < 6:
		x.Right = m.atom(m.now, d)
	case k < 8:
		x.Right = m.again(d)
	default:
		x.Right = m.control(d.Type, d.Clock, 1+m.choose(3))
	}
	return x
}

// atom returns a variable, mostly, or a constant.
func (m *maker) atom(from []api.Decl, d api.Decl) api.Expr {
	if l := of(from, d.Type, d.Clock); len(l) > 0 && m.choose(4) > 0 {
		return api.Expr{Kind: api.EVar, Name: pick(m.choose, l...).Name}
	}
	return api.Expr{Kind: api.EConst, T: d.Type, V: m.some(d.Type)}
}

// again returns a right side that there is already, if there is one.
func (m *maker) again(d api.Decl) api.Expr {
	for _, i := range order(m.choose, len(m.eqs)) {
		x := m.eqs[i]
		if x.Kind == api.NDef && slices.Equal(x.Clock, d.Clock) && len(of(m.now, d.Type, d.Clock)) > 0 &&
			slices.ContainsFunc(m.now, func(y api.Decl) bool { return y.Name == x.Left[0] && y.Type == d.Type }) {
			return x.Right
		}
	}
	return m.control(d.Type, d.Clock, 2)
}

// call returns a call that defines variables on the clock of the first one, if there can be one.
func (m *maker) call(vars []api.Decl) api.NEq {
	d := vars[0]
	for _, i := range order(m.choose, len(m.nodes)) {
		n := m.nodes[i]
		left := results(n.Out, vars, d.Clock)
		if len(left) < len(n.Out) {
			continue
		}
		x := api.NEq{Kind: api.NCall, Left: left, Node: n.Name, Clock: d.Clock}
		for _, in := range n.In {
			x.Args = append(x.Args, m.simple(in.Type, d.Clock, 2))
		}
		if l := of(m.now, api.TBool, d.Clock); len(l) > 0 && m.choose(2) == 0 {
			x.Every = pick(m.choose, l...).Name
		}
		return x
	}
	return api.NEq{Kind: api.NDef, Left: []string{d.Name}, Clock: d.Clock, Right: m.control(d.Type, d.Clock, 3)}
}

// results returns different variables on a clock for the outputs of a node, as far as there are some.
func results(out, vars []api.Decl, ck []api.On) []string {
	var l []string
	for _, d := range out {
		taken := func(d api.Decl) bool { return slices.Contains(l, d.Name) }
		if free := slices.DeleteFunc(of(vars, d.Type, ck), taken); len(free) > 0 {
			l = append(l, free[0].Name)
		}
	}
	return l
}

// control returns a control expression of a type on a clock.
func (m *maker) control(t int, ck []api.On, depth int) api.Expr {
	on := func(d api.Decl) bool { return d.Type == api.TInt || !slices.Equal(d.Clock, ck) }
	if l := slices.DeleteFunc(slices.Clone(m.now), on); len(l) > 0 && len(ck) < api.MaxClock && depth > 0 && m.choose(3) == 0 {
		d := pick(m.choose, l...)
		e := api.Expr{Kind: api.EMerge, Name: d.Name, T: d.Type}
		for tag := range value.Size(m.enums, d.Type) {
			e.Args = append(e.Args, m.control(t, longer(ck, d, tag), depth-1))
		}
		return e
	}
	return m.simple(t, ck, depth)
}

// simple returns a simple expression of a type on a clock.
func (m *maker) simple(t int, ck []api.On, depth int) api.Expr {
	one := func(t int) api.Expr { return m.simple(t, ck, depth-1) }
	k := m.choose(6)
	if depth <= 0 {
		k = 5
	}
	switch {
	case k == 0:
		return api.Expr{Kind: api.EIf, Args: []api.Expr{one(api.TBool), one(t), one(t)}}
	case k < 3 && len(ck) > 0:
		last := len(ck) - 1
		return api.Expr{Kind: api.EWhen, Name: ck[last].Name, T: ck[last].T, V: ck[last].Tag, Args: []api.Expr{m.atom(m.now, api.Decl{Type: t, Clock: ck[:last]})}}
	case k < 5 && t == api.TInt:
		return operation(pick(m.choose, api.OpAdd, api.OpSub, api.OpMul, api.OpDiv, api.OpMod), one(t), one(t))
	case k == 3 && t == api.TBool:
		return operation(api.OpNot, one(t))
	case k < 3 && t == api.TBool:
		return operation(pick(m.choose, api.OpAnd, api.OpOr, api.OpXor), one(t), one(t))
	case k == 4 && t == api.TBool:
		operands := m.someType()
		return operation(pick(m.choose, api.OpEq, api.OpNe), one(operands), one(operands))
	}
	return m.atom(m.now, api.Decl{Type: t, Clock: ck})
}

func operation(op int, args ...api.Expr) api.Expr { return api.Expr{Kind: api.EOp, Op: op, Args: args} }
