package types

import (
	"math/rand"
	"slices"
	"strconv"

	"synchrony/api"
)

// maker makes programs whose types are right.
type maker struct {
	r       *rand.Rand
	enums   []api.Enum
	nodes   []api.Node
	visible []api.Decl
	pure    bool // whether expressions must have no state
}

// someProgram returns a program whose types are right.
func someProgram(r *rand.Rand) api.Program {
	m := &maker{r: r}
	for i := range r.Intn(4) {
		x := api.Enum{Name: "E" + strconv.Itoa(i)}
		for k := range 1 + r.Intn(3) {
			x.Tags = append(x.Tags, "T"+strconv.Itoa(i)+strconv.Itoa(k))
		}
		m.enums = append(m.enums, x)
	}
	for i := range 1 + r.Intn(4) {
		m.node("f" + strconv.Itoa(i))
	}
	return api.Program{Enums: m.enums, Nodes: m.nodes}
}

func (m *maker) someType() int { return 1 + m.r.Intn(2+len(m.enums)) }

// declare adds from least to most variables, which are visible from then on.
func (m *maker) declare(least, most int) []api.Decl {
	from := len(m.visible)
	for range least + m.r.Intn(most-least+1) {
		m.visible = append(m.visible, api.Decl{Name: "v" + strconv.Itoa(len(m.visible)), Type: m.someType()})
	}
	return slices.Clone(m.visible[from:])
}

// locals adds samplings, which need not have the types of their variables.
func (m *maker) locals(most int) []api.Decl {
	l := m.declare(0, most)
	for i := range l {
		for range m.r.Intn(3) {
			l[i].Clock = append(l[i].Clock, api.On{Name: m.visible[m.r.Intn(len(m.visible))].Name, T: api.TBool, Tag: m.r.Intn(2)})
		}
	}
	return l
}

func (m *maker) node(name string) {
	m.visible = nil
	n := api.Node{Name: name, In: m.declare(0, 4)}
	n.Assume = m.claims()
	n.Out = m.declare(1, 3)
	n.Ensure = m.claims()
	n.Locals = m.locals(4)
	n.Eqs, n.Autos = m.body(slices.Concat(n.Out, n.Locals), 0)
	m.nodes = append(m.nodes, n)
}

func (m *maker) claims() []api.Expr {
	var l []api.Expr
	for range m.r.Intn(3) {
		l = append(l, m.expr(api.TBool, 2))
	}
	return l
}

// body defines the variables, in automata if they are nested in fewer than MaxNest others.
func (m *maker) body(vars []api.Decl, nest int) (eqs []api.Eq, autos []api.Auto) {
	m.r.Shuffle(len(vars), func(i, j int) { vars[i], vars[j] = vars[j], vars[i] })
	if nest < api.MaxNest && len(vars) > 0 {
		for range m.r.Intn(3) {
			k := m.r.Intn(1 + len(vars)/2)
			autos, vars = append(autos, m.auto(vars[:k], nest+1)), vars[k:]
		}
	}
	for len(vars) > 0 {
		x, rest := m.equation(vars)
		eqs, vars = append(eqs, x), rest
	}
	return eqs, autos
}

// equation defines some of the variables, and returns the others.
func (m *maker) equation(vars []api.Decl) (api.Eq, []api.Decl) {
	if len(m.nodes) > 0 && m.r.Intn(2) == 0 {
		n := m.nodes[m.r.Intn(len(m.nodes))]
		if left, rest, ok := assign(n.Out, vars); ok {
			return eq(m.call(n, 2), left...), rest
		}
	}
	return eq(m.expr(vars[0].Type, 3), vars[0].Name), vars[1:]
}

// assign returns names of variables that have the types of the outputs, and the other variables.
func assign(out, vars []api.Decl) ([]string, []api.Decl, bool) {
	rest := slices.Clone(vars)
	var left []string
	for _, d := range out {
		i := slices.IndexFunc(rest, func(v api.Decl) bool { return v.Type == d.Type })
		if i < 0 {
			return nil, nil, false
		}
		left = append(left, rest[i].Name)
		rest = slices.Delete(rest, i, i+1)
	}
	return left, rest, true
}

func (m *maker) auto(vars []api.Decl, nest int) api.Auto {
	n := 1 + m.r.Intn(3)
	around := m.visible
	var a api.Auto
	for i := range n {
		m.visible = slices.Clone(around)
		s := api.State{Name: "S" + strconv.Itoa(i)}
		s.Unless = m.transitions(n, true)
		s.Locals = m.locals(3)
		s.Eqs, s.Autos = m.body(slices.Concat(vars, s.Locals), nest)
		s.Until = m.transitions(n, false)
		a.States = append(a.States, s)
	}
	m.visible = around
	return a
}

func (m *maker) transitions(states int, pure bool) []api.Trans {
	m.pure = pure
	var l []api.Trans
	for range m.r.Intn(3) {
		l = append(l, api.Trans{Cond: m.expr(api.TBool, 2), To: m.r.Intn(states), Resume: m.r.Intn(2) == 0})
	}
	m.pure = false
	return l
}

// call returns a call of n, sometimes with a reset condition.
func (m *maker) call(n api.Node, depth int) api.Expr {
	e := call(n.Name)
	for _, d := range n.In {
		e.Args = append(e.Args, m.expr(d.Type, depth))
	}
	if m.r.Intn(2) == 0 {
		e.V = 1
		e.Args = append(e.Args, m.expr(api.TBool, depth))
	}
	return e
}

// leaf returns a variable of the type, or a constant.
func (m *maker) leaf(t int) api.Expr {
	l := slices.DeleteFunc(slices.Clone(m.visible), func(d api.Decl) bool { return d.Type != t })
	switch k := m.r.Intn(4); {
	case len(l) > 0 && k > 0:
		return variable(l[m.r.Intn(len(l))].Name)
	case t == api.TInt:
		return constant(t, m.r.Intn(65536)-32768)
	case t == api.TBool && k == 1 && !m.pure:
		return api.Expr{Kind: api.EWord, Name: "1(01)"}
	}
	return constant(t, m.r.Intn(m.values(t)))
}

// values returns the number of values of a type other than TInt.
func (m *maker) values(t int) int {
	if t == api.TBool {
		return 2
	}
	return len(m.enums[t-api.TEnum].Tags)
}

// expr returns an expression of a type.
func (m *maker) expr(t, depth int) api.Expr {
	if depth == 0 || m.r.Intn(8) == 0 {
		return m.leaf(t)
	}
	one := func(t int) api.Expr { return m.expr(t, depth-1) }
	switch k := m.r.Intn(8); {
	case k == 0:
		return with(api.EIf, one(api.TBool), one(t), one(t))
	case k == 1:
		return m.sampled(t, depth)
	case k == 2 && !m.pure:
		return m.delay(t, depth)
	case k == 3 && !m.pure:
		l := slices.DeleteFunc(slices.Clone(m.nodes), func(n api.Node) bool { return len(n.Out) != 1 || n.Out[0].Type != t })
		if len(l) > 0 {
			return m.call(l[m.r.Intn(len(l))], depth-1)
		}
	}
	if t >= api.TEnum {
		return with(api.EIf, one(api.TBool), one(t), m.leaf(t))
	}
	return m.operation(t, one)
}

func (m *maker) delay(t, depth int) api.Expr {
	switch m.r.Intn(3) {
	case 0:
		return with(api.EPre, m.expr(t, depth-1))
	case 1:
		return with(api.EArrow, m.expr(t, depth-1), m.expr(t, depth-1))
	}
	return with(api.EFby, m.expr(t, depth-1), m.expr(t, depth-1))
}

// sampled returns a sampling or a merge by one of the variables, if there is one that is no number.
func (m *maker) sampled(t, depth int) api.Expr {
	l := slices.DeleteFunc(slices.Clone(m.visible), func(d api.Decl) bool { return d.Type == api.TInt })
	if len(l) == 0 {
		return m.leaf(t)
	}
	d := l[m.r.Intn(len(l))]
	e := api.Expr{Kind: api.EMerge, Name: d.Name, T: d.Type}
	if m.r.Intn(2) == 0 {
		e.Kind, e.V, e.Args = api.EWhen, m.r.Intn(m.values(d.Type)), []api.Expr{m.expr(t, depth-1)}
		return e
	}
	for range m.values(d.Type) {
		e.Args = append(e.Args, m.expr(t, depth-1))
	}
	return e
}

// operation returns an operation whose result is a truth value or a number.
func (m *maker) operation(t int, operand func(t int) api.Expr) api.Expr {
	if t == api.TInt {
		if op := api.OpAdd - 1 + m.r.Intn(6); op >= api.OpAdd {
			return operation(op, operand(t), operand(t))
		}
		return operation(api.OpNeg, operand(t))
	}
	switch k := m.r.Intn(4); k {
	case 0:
		return operation(api.OpNot, operand(t))
	case 1:
		return operation(api.OpLt+m.r.Intn(4), operand(api.TInt), operand(api.TInt))
	case 2:
		of := m.someType()
		return operation(api.OpEq+m.r.Intn(2), operand(of), operand(of))
	}
	return operation(api.OpAnd+m.r.Intn(3), operand(t), operand(t))
}
