package norm

import (
	"math/rand"
	"slices"
	"strconv"

	"synchrony/api"
)

// maker makes plain programs that are accepted, but for the initialization if late is not 0.
type maker struct {
	r     *rand.Rand
	late  int // one EPre of so many has no value before it
	nodes []api.Node
	names int
	now   []api.Decl // what an expression may read at the same instant
	all   []api.Decl // and what it may delay
}

const ofEnum = api.TEnum // the type of the enumeration of the programs, which has three tags

// someProgram returns a program whose last node calls the others, or could.
func someProgram(r *rand.Rand, late int) api.Program {
	m := &maker{r: r, late: late}
	for range 1 + r.Intn(3) {
		m.nodes = append(m.nodes, m.node())
	}
	return api.Program{Enums: []api.Enum{{Name: "E", Tags: []string{"P", "Q", "R"}}}, Nodes: m.nodes}
}

func pick[T any](r *rand.Rand, l ...T) T { return l[r.Intn(len(l))] }

// name returns a new name, sometimes one that could be added.
func (m *maker) name() string {
	m.names++
	return pick(m.r, "v", "v", "aux_") + strconv.Itoa(m.names)
}

func (m *maker) decl(ck []api.On) api.Decl {
	return api.Decl{Name: m.name(), Type: pick(m.r, api.TBool, api.TBool, api.TInt, api.TInt, ofEnum), Clock: slices.Clone(ck)}
}

func (m *maker) node() api.Node {
	n := api.Node{Name: m.name()}
	for range 1 + m.r.Intn(4) {
		n.In = append(n.In, m.decl(nil))
	}
	n.Out = append(n.Out, m.decl(nil))
	vars := slices.Clone(n.Out)
	for range 1 + m.r.Intn(6) {
		d := m.decl(m.clock(slices.Concat(n.In, vars)))
		vars = append(vars, d)
		if len(d.Clock) == 0 && m.r.Intn(3) == 0 {
			n.Out = append(n.Out, d)
		} else {
			n.Locals = append(n.Locals, d)
		}
	}
	m.now, m.all = n.In, slices.Concat(n.In, vars)
	for len(vars) > 0 {
		x := m.equation(vars)
		n.Eqs = append(n.Eqs, x)
		m.now = slices.Concat(m.now, vars[:len(x.Left)])
		vars = vars[len(x.Left):]
	}
	m.r.Shuffle(len(n.Eqs), func(i, k int) { n.Eqs[i], n.Eqs[k] = n.Eqs[k], n.Eqs[i] })
	return n
}

// clock returns the base clock, or one that the variables permit.
func (m *maker) clock(vars []api.Decl) []api.On {
	d := pick(m.r, vars...)
	if d.Type == api.TInt || len(d.Clock) == api.MaxClock {
		return d.Clock
	}
	return m.longer(d.Clock, d, m.value(d.Type))
}

func (m *maker) longer(ck []api.On, d api.Decl, tag int) []api.On {
	return append(slices.Clone(ck), api.On{Name: d.Name, T: d.Type, Tag: tag})
}

func (m *maker) value(t int) int {
	switch t {
	case api.TBool:
		return m.r.Intn(2)
	case api.TInt:
		return m.r.Intn(7) - 3
	}
	return m.r.Intn(3)
}

// equation returns one that defines the first variable, or the first ones by a call.
func (m *maker) equation(vars []api.Decl) api.Eq {
	d := vars[0]
	for _, n := range m.nodes {
		fits := func(out, v api.Decl) bool { return out.Type == v.Type && slices.Equal(v.Clock, d.Clock) }
		if k := len(n.Out); k > 1 && k <= len(vars) && slices.EqualFunc(n.Out, vars[:k], fits) {
			var left []string
			for _, v := range vars[:k] {
				left = append(left, v.Name)
			}
			return api.Eq{Left: left, Right: m.call(n, d.Clock, 2)}
		}
	}
	return api.Eq{Left: []string{d.Name}, Right: m.expr(d.Type, d.Clock, m.r.Intn(5))}
}

func (m *maker) call(n api.Node, ck []api.On, depth int) api.Expr {
	e := api.Expr{Kind: api.ECall, Name: n.Name, V: m.r.Intn(2)}
	for _, d := range n.In {
		e.Args = append(e.Args, m.expr(d.Type, ck, depth-1))
	}
	if e.V == 1 {
		e.Args = append(e.Args, m.expr(api.TBool, ck, depth-1))
	}
	return e
}

// expr returns an expression of a type on a clock.
func (m *maker) expr(t int, ck []api.On, depth int) api.Expr {
	if depth <= 0 {
		return m.leaf(t, ck)
	}
	same := func() api.Expr { return m.expr(t, ck, depth-1) }
	switch m.r.Intn(9) {
	case 0:
		return with(api.EIf, m.expr(api.TBool, ck, depth-1), same(), same())
	case 1:
		first := same()
		return with(api.EArrow, first, m.pre(t, ck, depth-1))
	case 2:
		return with(api.EFby, same(), m.delayed(t, ck, depth-1))
	case 3:
		return with(api.EFby, api.Expr{Kind: api.EConst, T: t, V: m.value(t)}, m.delayed(t, ck, depth-1))
	case 4, 5:
		return m.merge(t, ck, depth-1)
	case 6:
		for _, i := range m.r.Perm(len(m.nodes)) {
			if n := m.nodes[i]; len(n.Out) == 1 && n.Out[0].Type == t {
				return m.call(n, ck, depth)
			}
		}
	case 7:
		if k := len(ck) - 1; k >= 0 {
			return api.Expr{Kind: api.EWhen, Name: ck[k].Name, T: ck[k].T, V: ck[k].Tag, Args: []api.Expr{m.expr(t, ck[:k], depth-1)}}
		}
	case 8:
		if m.late > 0 && m.r.Intn(m.late) == 0 {
			return m.pre(t, ck, depth-1)
		}
	}
	return m.operation(t, ck, depth-1)
}

func (m *maker) leaf(t int, ck []api.On) api.Expr {
	other := func(d api.Decl) bool { return d.Type != t || !slices.Equal(d.Clock, ck) }
	if l := slices.DeleteFunc(slices.Clone(m.now), other); len(l) > 0 && m.r.Intn(6) > 0 {
		return variables(pick(m.r, l...).Name)[0]
	}
	if t == api.TBool && m.r.Intn(2) > 0 {
		return api.Expr{Kind: api.EWord, Name: pick(m.r, "0(1)", "1(01)", "(110)")}
	}
	return api.Expr{Kind: api.EConst, T: t, V: m.value(t)}
}

// delayed returns an expression that may read all variables.
func (m *maker) delayed(t int, ck []api.On, depth int) api.Expr {
	defer func(now []api.Decl) { m.now = now }(m.now)
	m.now = m.all
	return m.expr(t, ck, depth)
}

func (m *maker) pre(t int, ck []api.On, depth int) api.Expr {
	return with(api.EPre, m.delayed(t, ck, depth))
}

// merge returns a merge, or a leaf, if there can be none on the clock.
func (m *maker) merge(t int, ck []api.On, depth int) api.Expr {
	other := func(d api.Decl) bool { return d.Type == api.TInt || !slices.Equal(d.Clock, ck) }
	l := slices.DeleteFunc(slices.Clone(m.now), other)
	if len(l) == 0 || len(ck) == api.MaxClock {
		return m.leaf(t, ck)
	}
	d := pick(m.r, l...)
	e := api.Expr{Kind: api.EMerge, Name: d.Name, T: d.Type}
	for tag := range min(d.Type+1, 3) { // two values of the type bool, three of the enumeration
		e.Args = append(e.Args, m.expr(t, m.longer(ck, d, tag), depth))
	}
	return e
}

func (m *maker) operation(t int, ck []api.On, depth int) api.Expr {
	of := func(operands int, operators ...int) api.Expr {
		e := api.Expr{Kind: api.EOp, Op: pick(m.r, operators...), Args: []api.Expr{m.expr(operands, ck, depth)}}
		if e.Op != api.OpNot && e.Op != api.OpNeg {
			e.Args = append(e.Args, m.expr(operands, ck, depth))
		}
		return e
	}
	switch {
	case t == api.TInt:
		return of(t, api.OpAdd, api.OpAdd, api.OpSub, api.OpMul, api.OpMod, api.OpNeg)
	case t == api.TBool && m.r.Intn(2) == 0:
		return of(t, api.OpAnd, api.OpOr, api.OpXor, api.OpNot)
	case t == api.TBool:
		return of(pick(m.r, api.TInt, ofEnum), api.OpEq, api.OpNe)
	}
	return m.leaf(t, ck)
}
