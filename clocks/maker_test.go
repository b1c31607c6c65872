package clocks

import (
	"math/rand"
	"slices"
	"strconv"

	"synchrony/api"
)

// maker makes programs whose clocks are right.
type maker struct {
	r     *rand.Rand
	enums []api.Enum
	nodes []api.Node
	vars  []api.Decl // the variables of the node that are declared so far
}

// someProgram returns a program whose clocks are right.
func someProgram(r *rand.Rand) api.Program {
	m := &maker{r: r}
	for i := range r.Intn(3) {
		x := api.Enum{Name: "E" + strconv.Itoa(i)}
		for k := range 1 + r.Intn(3) {
			x.Tags = append(x.Tags, "T"+strconv.Itoa(i)+strconv.Itoa(k))
		}
		m.enums = append(m.enums, x)
	}
	for i := range 1 + r.Intn(3) {
		m.node("f" + strconv.Itoa(i))
	}
	return api.Program{Enums: m.enums, Nodes: m.nodes}
}

func (m *maker) someType() int { return 1 + m.r.Intn(2+len(m.enums)) }

// declare adds from least to most variables on clocks of at most so many samplings.
func (m *maker) declare(least, most, samplings int) []api.Decl {
	from := len(m.vars)
	for range least + m.r.Intn(most-least+1) {
		d := api.Decl{Name: "v" + strconv.Itoa(len(m.vars)), Type: m.someType()}
		if samplings > 0 && m.r.Intn(2) == 0 {
			d.Type = api.TBool
		}
		for range min(3, len(m.vars)) {
			c := m.vars[m.r.Intn(len(m.vars))]
			if n := len(c.Clock); c.Type != api.TInt && n < samplings && n >= len(d.Clock) {
				d.Clock = append(slices.Clone(c.Clock), api.On{Name: c.Name, T: c.Type, Tag: m.r.Intn(m.values(c.Type))})
			}
		}
		m.vars = append(m.vars, d)
	}
	return slices.Clone(m.vars[from:])
}

// on returns the variables on a clock.
func (m *maker) on(ck []api.On) []api.Decl {
	return slices.DeleteFunc(slices.Clone(m.vars), func(d api.Decl) bool { return !slices.Equal(d.Clock, ck) })
}

// choices returns the variables on a clock that are no numbers.
func (m *maker) choices(ck []api.On) []api.Decl {
	return slices.DeleteFunc(m.on(ck), func(d api.Decl) bool { return d.Type == api.TInt })
}

// values returns the number of values of a type other than TInt.
func (m *maker) values(t int) int {
	if t == api.TBool {
		return 2
	}
	return len(m.enums[t-api.TEnum].Tags)
}

func (m *maker) node(name string) {
	m.vars = nil
	n := api.Node{Name: name, In: m.declare(1, 4, 0)}
	n.Assume = m.claims()
	n.Out = m.declare(1, 3, 0)
	n.Ensure = m.claims()
	n.Locals = m.declare(0, 12, api.MaxClock)
	m.r.Shuffle(len(n.Locals), func(i, j int) { n.Locals[i], n.Locals[j] = n.Locals[j], n.Locals[i] })
	rest := slices.Concat(n.Out, n.Locals)
	m.r.Shuffle(len(rest), func(i, j int) { rest[i], rest[j] = rest[j], rest[i] })
	for len(rest) > 0 {
		var x api.Eq
		x, rest = m.equation(rest)
		n.Eqs = append(n.Eqs, x)
	}
	m.nodes = append(m.nodes, n)
}

func (m *maker) claims() []api.Expr {
	var l []api.Expr
	for range m.r.Intn(3) {
		l = append(l, m.expr(api.TBool, nil, 2))
	}
	return l
}

// equation defines some of the variables, and returns the others.
func (m *maker) equation(vars []api.Decl) (api.Eq, []api.Decl) {
	first := vars[0]
	for _, n := range m.nodes {
		if left, rest, ok := assign(n.Out, vars, first.Clock); ok && m.r.Intn(2) == 0 {
			return eq(m.call(n, first.Clock, 2), left...), rest
		}
	}
	return eq(m.expr(first.Type, first.Clock, 4), first.Name), vars[1:]
}

// assign returns names of variables on the clock that have the types of the outputs, and the other variables.
func assign(out, vars []api.Decl, ck []api.On) ([]string, []api.Decl, bool) {
	rest := slices.Clone(vars)
	var left []string
	for _, d := range out {
		i := slices.IndexFunc(rest, func(v api.Decl) bool { return v.Type == d.Type && slices.Equal(v.Clock, ck) })
		if i < 0 {
			return nil, nil, false
		}
		left = append(left, rest[i].Name)
		rest = slices.Delete(rest, i, i+1)
	}
	return left, rest, true
}

// call returns a call of n, sometimes with a reset condition.
func (m *maker) call(n api.Node, ck []api.On, depth int) api.Expr {
	e := call(n.Name)
	for _, d := range n.In {
		e.Args = append(e.Args, m.expr(d.Type, ck, depth))
	}
	if m.r.Intn(2) == 0 {
		e.V = 1
		e.Args = append(e.Args, m.expr(api.TBool, ck, depth))
	}
	return e
}

// leaf returns a variable, a constant or a word.
func (m *maker) leaf(t int, ck []api.On) api.Expr {
	l := slices.DeleteFunc(m.on(ck), func(d api.Decl) bool { return d.Type != t })
	switch k := m.r.Intn(4); {
	case len(l) > 0 && k > 0:
		return variable(l[m.r.Intn(len(l))].Name)
	case t == api.TInt:
		return constant(t, m.r.Intn(100))
	case t == api.TBool && k == 1:
		return api.Expr{Kind: api.EWord, Name: "1(01)"}
	}
	return constant(t, m.r.Intn(m.values(t)))
}

// expr returns an expression of a type on a clock.
func (m *maker) expr(t int, ck []api.On, depth int) api.Expr {
	if depth == 0 || m.r.Intn(8) == 0 {
		return m.leaf(t, ck)
	}
	one := func(t int) api.Expr { return m.expr(t, ck, depth-1) }
	switch m.r.Intn(8) {
	case 0:
		return with(api.EIf, one(api.TBool), one(t), one(t))
	case 1:
		return with(api.EPre, one(t))
	case 2:
		return with([]int{api.EArrow, api.EFby}[m.r.Intn(2)], one(t), one(t))
	case 3:
		for _, n := range m.nodes {
			if len(n.Out) == 1 && n.Out[0].Type == t {
				return m.call(n, ck, depth-1)
			}
		}
	case 4:
		return m.operation(t, one)
	}
	return m.sampled(t, ck, depth)
}

// sampled returns a sampling or a merge, if there can be one on the clock.
func (m *maker) sampled(t int, ck []api.On, depth int) api.Expr {
	if n := len(ck); n > 0 && m.r.Intn(2) == 0 {
		return when(ck[n-1], m.expr(t, ck[:n-1], depth-1))
	}
	l := m.choices(ck)
	if len(l) == 0 || len(ck) == api.MaxClock {
		return m.leaf(t, ck)
	}
	c := l[m.r.Intn(len(l))]
	e := merge(c.Name, c.Type)
	for i := range m.values(c.Type) {
		x := api.On{Name: c.Name, T: c.Type, Tag: i}
		e.Args = append(e.Args, m.expr(t, append(slices.Clone(ck), x), depth-1))
	}
	return e
}

func (m *maker) operation(t int, operand func(t int) api.Expr) api.Expr {
	switch t {
	case api.TInt:
		return operation(api.OpAdd, operand(t), operand(t))
	case api.TBool:
		of := m.someType()
		return operation(api.OpEq, operand(of), operand(of))
	}
	return with(api.EIf, operand(api.TBool), operand(t), operand(t))
}
