package simp

import (
	"math/rand"
	"slices"
	"strconv"

	"synchrony/api"
)

// maker makes programs in normal form, in which there is much to simplify.
type maker struct {
	r     *rand.Rand
	nodes []api.NNode
	now   []api.Decl // what an expression may read at the same instant
	all   []api.Decl // and what a delay may read
	eqs   []api.NEq
}

func someProgram(r *rand.Rand) api.NProgram {
	m := &maker{r: r}
	for i := range 1 + r.Intn(3) {
		m.nodes = append(m.nodes, m.node("f"+strconv.Itoa(i)))
	}
	return api.NProgram{Enums: enums(), Nodes: m.nodes}
}

func (m *maker) node(name string) api.NNode {
	n := api.NNode{Name: name}
	count := 0
	decl := func(ck []api.On) api.Decl {
		count++
		return api.Decl{Name: "v" + strconv.Itoa(count), Type: pick(m.r, api.TBool, api.TBool, api.TInt, api.TInt, api.TEnum), Clock: slices.Clone(ck)}
	}
	for range 1 + m.r.Intn(3) {
		n.In = append(n.In, decl(nil))
	}
	var vars []api.Decl
	for range 2 + m.r.Intn(12) {
		vars = append(vars, decl(m.clock(slices.Concat(n.In, vars))))
	}
	vars = append(vars, decl(nil))
	for i, d := range vars {
		if len(d.Clock) == 0 && (m.r.Intn(4) == 0 || i == len(vars)-1) {
			n.Out = append(n.Out, d)
		} else {
			n.Locals = append(n.Locals, d)
		}
	}
	m.now, m.all, m.eqs = n.In, slices.Concat(n.In, vars), nil
	for len(vars) > 0 {
		x := m.equation(vars)
		m.eqs = append(m.eqs, x)
		m.now = slices.Concat(m.now, vars[:len(x.Left)])
		vars = vars[len(x.Left):]
	}
	n.Eqs = deepCopy(m.eqs)
	m.r.Shuffle(len(n.Eqs), func(i, k int) { n.Eqs[i], n.Eqs[k] = n.Eqs[k], n.Eqs[i] })
	return n
}

// clock returns the base clock, or one that the variables permit.
func (m *maker) clock(vars []api.Decl) []api.On {
	if d := pick(m.r, vars...); d.Type != api.TInt && len(d.Clock) < 2 && m.r.Intn(2) == 0 {
		return longer(d.Clock, d, m.r.Intn(2))
	}
	return pick(m.r, vars...).Clock
}

func longer(ck []api.On, d api.Decl, tag int) []api.On {
	return append(slices.Clone(ck), api.On{Name: d.Name, T: d.Type, Tag: tag})
}

// of returns the variables of a type on a clock.
func of(l []api.Decl, t int, ck []api.On) []api.Decl {
	return slices.DeleteFunc(slices.Clone(l), func(d api.Decl) bool { return d.Type != t || !slices.Equal(d.Clock, ck) })
}

// equation returns one that defines the first variable, or the first ones by a call.
func (m *maker) equation(vars []api.Decl) api.NEq {
	d := vars[0]
	x := api.NEq{Kind: api.NDef, Left: []string{d.Name}, Clock: d.Clock}
	switch k := m.r.Intn(10); {
	case k == 0:
		x.Kind, x.Init, x.Right = api.NDelay, m.r.Intn(2), m.atom(m.all, d)
	case k < 3:
		return m.call(vars)
	case k == 3 && d.Type == api.TBool:
		x.Kind, x.Node = api.NWord, pick(m.r, "(10)", "1(01)")
	case k < 6:
		x.Right = m.atom(m.now, d)
	case k < 8:
		x.Right = m.again(d)
	default:
		x.Right = m.control(d.Type, d.Clock, 1+m.r.Intn(3))
	}
	return x
}

// atom returns a variable, mostly, or a constant.
func (m *maker) atom(from []api.Decl, d api.Decl) api.Expr {
	if l := of(from, d.Type, d.Clock); len(l) > 0 && m.r.Intn(4) > 0 {
		return v(pick(m.r, l...).Name)
	}
	return constant(d.Type, m.r.Intn(2))
}

// again returns a right side that there is already, if there is one.
func (m *maker) again(d api.Decl) api.Expr {
	for _, i := range m.r.Perm(len(m.eqs)) {
		x := m.eqs[i]
		if x.Kind == api.NDef && slices.Equal(x.Clock, d.Clock) && len(of(m.now, d.Type, d.Clock)) > 0 &&
			slices.ContainsFunc(m.now, func(y api.Decl) bool { return y.Name == x.Left[0] && y.Type == d.Type }) {
			return x.Right
		}
	}
	return m.control(d.Type, d.Clock, 2)
}

// call returns a call that defines the first variables, if there can be one.
func (m *maker) call(vars []api.Decl) api.NEq {
	d := vars[0]
	for _, i := range m.r.Perm(len(m.nodes)) {
		n := m.nodes[i]
		fits := func(out, v api.Decl) bool { return out.Type == v.Type && slices.Equal(v.Clock, d.Clock) }
		if k := len(n.Out); k > len(vars) || !slices.EqualFunc(n.Out, vars[:k], fits) {
			continue
		}
		x := api.NEq{Kind: api.NCall, Node: n.Name, Clock: d.Clock}
		for k := range n.Out {
			x.Left = append(x.Left, vars[k].Name)
		}
		for _, in := range n.In {
			x.Args = append(x.Args, m.simple(in.Type, d.Clock, 2))
		}
		if l := of(m.now, api.TBool, d.Clock); len(l) > 0 && m.r.Intn(2) == 0 {
			x.Every = pick(m.r, l...).Name
		}
		return x
	}
	return api.NEq{Kind: api.NDef, Left: []string{d.Name}, Clock: d.Clock, Right: m.control(d.Type, d.Clock, 3)}
}

// control returns a control expression of a type on a clock.
func (m *maker) control(t int, ck []api.On, depth int) api.Expr {
	on := func(d api.Decl) bool { return d.Type == api.TInt || !slices.Equal(d.Clock, ck) }
	if l := slices.DeleteFunc(slices.Clone(m.now), on); len(l) > 0 && len(ck) < api.MaxClock && depth > 0 && m.r.Intn(3) == 0 {
		d := pick(m.r, l...)
		e := api.Expr{Kind: api.EMerge, Name: d.Name, T: d.Type}
		for tag := range min(d.Type+1, 3) { // two values of the type bool, three of the enumeration
			e.Args = append(e.Args, m.control(t, longer(ck, d, tag), depth-1))
		}
		return e
	}
	return m.simple(t, ck, depth)
}

// simple returns a simple expression of a type on a clock.
func (m *maker) simple(t int, ck []api.On, depth int) api.Expr {
	one := func(t int) api.Expr { return m.simple(t, ck, depth-1) }
	k := m.r.Intn(6)
	if depth <= 0 {
		k = 5
	}
	switch {
	case k == 0:
		return with(api.EIf, one(api.TBool), one(t), one(t))
	case k < 3 && len(ck) > 0:
		last := len(ck) - 1
		return api.Expr{Kind: api.EWhen, Name: ck[last].Name, T: ck[last].T, V: ck[last].Tag, Args: []api.Expr{m.atom(m.now, api.Decl{Type: t, Clock: ck[:last]})}}
	case k < 5 && t == api.TInt:
		return op(pick(m.r, api.OpAdd, api.OpSub, api.OpMul, api.OpDiv, api.OpMod), one(t), one(t))
	case k == 3 && t == api.TBool:
		return op(api.OpNot, one(t))
	case k < 3 && t == api.TBool:
		return op(pick(m.r, api.OpAnd, api.OpOr, api.OpXor), one(t), one(t))
	case k == 4 && t == api.TBool:
		operands := 1 + m.r.Intn(3)
		return op(pick(m.r, api.OpEq, api.OpNe), one(operands), one(operands))
	}
	return m.atom(m.now, api.Decl{Type: t, Clock: ck})
}
