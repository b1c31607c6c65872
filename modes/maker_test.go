package modes

import (
	"math/rand"
	"slices"
	"strconv"
	"strings"
)

// made is a variable of a node that is made: the names of its type and of its samplings.
type made struct {
	name, kind string
	clock      []string
}

func (v made) text() string {
	s := v.name + ": " + v.kind
	for _, x := range v.clock {
		s += " when " + x
	}
	return s
}

func onBaseClock(l []made) []made {
	return slices.DeleteFunc(slices.Clone(l), func(v made) bool { return len(v.clock) > 0 })
}

// madeNode has the name and the types of the inputs and outputs of a node.
type madeNode struct {
	name    string
	in, out []string
}

// maker makes texts of programs whose types are right, and whose clocks are right and without cycles when they are expanded.
type maker struct {
	r          *rand.Rand
	names      []string // the beginnings of the names of variables
	nodes      []madeNode
	count      int    // of the variables of the node, with those of the states around
	now, later []made // on which an expression may depend at the same instant, and which it may delay
	autos      int    // how many automata there may still be
	nest       int    // the greatest depth of the nesting
	pure       bool   // whether expressions must have no state
}

// someText returns the text of a program.
func someText(r *rand.Rand) string {
	m := &maker{r: r, autos: 12, nest: r.Intn(4), names: []string{"v"}}
	if r.Intn(2) == 0 {
		m.names = []string{"part_", "next_", "back_", "cond_", "was_", "flag_", "now_", "reset_", "body_", "at_", "mode_"}
	}
	s := "type E = P | Q | R;\n"
	for range 1 + r.Intn(3) {
		s += m.node()
	}
	return s
}

func pick[T any](r *rand.Rand, l []T) T { return l[r.Intn(len(l))] }

// tagsOf returns the texts of the values of a type other than int.
func tagsOf(kind string) []string {
	if kind == "bool" {
		return []string{"true", "false"}
	}
	return []string{"P", "Q", "R"}
}

// declare returns a variable, sometimes on a clock that the variables permit.
func (m *maker) declare(by []made) made {
	v := made{name: pick(m.r, m.names) + strconv.Itoa(m.count), kind: pick(m.r, []string{"bool", "bool", "int", "int", "E"})}
	m.count++
	if len(by) > 0 && m.r.Intn(3) == 0 {
		if c := pick(m.r, by); c.kind != "int" && len(c.clock) < 2 {
			v.clock = append(slices.Clone(c.clock), pick(m.r, tagsOf(c.kind))+"("+c.name+")")
		}
	}
	return v
}

func declsText(vars []made) string {
	var l []string
	for _, v := range vars {
		l = append(l, v.text())
	}
	return strings.Join(l, "; ")
}

func kinds(vars []made) []string {
	var l []string
	for _, v := range vars {
		l = append(l, v.kind)
	}
	return l
}

func (m *maker) node() string {
	m.count = 0
	var in, out, vars []made
	for range 1 + m.r.Intn(3) {
		in = append(in, m.declare(nil))
	}
	for range 1 + m.r.Intn(6) {
		vars = append(vars, m.declare(slices.Concat(in, vars)))
	}
	vars = append(vars, m.declare(nil))
	locals := slices.Clone(vars)
	for _, v := range onBaseClock(vars) {
		if len(out) == 0 || m.r.Intn(2) == 0 {
			out = append(out, v)
			locals = slices.DeleteFunc(locals, func(w made) bool { return w.name == v.name })
		}
	}
	n := madeNode{"f" + strconv.Itoa(len(m.nodes)), kinds(in), kinds(out)}
	s := "node " + n.name + "(" + declsText(in) + ") returns (" + declsText(out) + ")\n" + varText(locals)
	m.now, m.later = in, slices.Concat(in, vars)
	s += "ensure " + m.claim(slices.Concat(in, out)) + ";\nlet\n" + m.body(vars, 0) + "tel\n"
	m.nodes = append(m.nodes, n)
	return s
}

func varText(locals []made) string {
	if len(locals) == 0 {
		return ""
	}
	return "var " + declsText(locals) + ";\n"
}

// claim returns an expression without delays about the variables.
func (m *maker) claim(vars []made) string {
	defer func(now []made, pure bool) { m.now, m.pure = now, pure }(m.now, m.pure)
	m.now, m.pure = vars, true
	return m.expr("bool", nil, 2)
}

// body defines the variables, one after the other, some of them in automata if they are not nested too deeply.
func (m *maker) body(vars []made, nest int) string {
	var eqs, autos []string
	for len(vars) > 0 {
		k := min(1+m.r.Intn(3), len(vars))
		if m.autos > 0 && nest < m.nest && m.r.Intn(2) == 0 && len(onBaseClock(vars[:k])) == k {
			m.autos--
			autos = append(autos, m.auto(vars[:k], nest+1))
		} else {
			var x string
			x, k = m.equation(vars)
			eqs = append(eqs, x)
		}
		m.now, vars = slices.Concat(m.now, vars[:k]), vars[k:]
	}
	m.r.Shuffle(len(eqs), func(i, j int) { eqs[i], eqs[j] = eqs[j], eqs[i] })
	m.r.Shuffle(len(autos), func(i, j int) { autos[i], autos[j] = autos[j], autos[i] })
	return strings.Join(eqs, "") + strings.Join(autos, "")
}

// equation returns an equation that defines the first of the variables, and how many they are.
func (m *maker) equation(vars []made) (string, int) {
	v := vars[0]
	fits := func(kind string, w made) bool { return w.kind == kind && slices.Equal(w.clock, v.clock) }
	for _, n := range m.nodes {
		if k := len(n.out); k > 1 && k <= len(vars) && slices.EqualFunc(n.out, vars[:k], fits) {
			left := v.name
			for _, w := range vars[1:k] {
				left += ", " + w.name
			}
			return "(" + left + ") = " + m.call(n, v.clock, 1) + ";\n", k
		}
	}
	return v.name + " = " + m.expr(v.kind, v.clock, 1+m.r.Intn(3)) + ";\n", 1
}

// auto returns an automaton that defines the variables, which are on the base clock.
func (m *maker) auto(vars []made, nest int) string {
	defer func(now, later []made, count int) { m.now, m.later, m.count = now, later, count }(m.now, m.later, m.count)
	visible, count := onBaseClock(m.now), m.count
	n := 1 + m.r.Intn(3)
	s := "automaton\n"
	for i := range n {
		var locals []made
		m.count = count // the states may have locals with the same names
		for range m.r.Intn(3) {
			locals = append(locals, m.declare(slices.Concat(visible, locals)))
		}
		m.now, m.pure = visible, true
		s += "state S" + strconv.Itoa(i) + "\n" + varText(locals) + m.transitions("unless ", n)
		m.pure, m.later = false, slices.Concat(visible, vars, locals)
		s += "do\n" + m.body(m.mixed(locals, vars), nest) + m.transitions("until ", n) + "done\n"
	}
	return s + "end\n"
}

// mixed returns both lists in one, with the locals in their order.
func (m *maker) mixed(locals, vars []made) []made {
	l := slices.Clone(locals)
	for _, v := range vars {
		l = slices.Insert(l, m.r.Intn(len(l)+1), v)
	}
	return l
}

func (m *maker) transitions(word string, states int) string {
	s := ""
	for range m.r.Intn(3) {
		s += word + m.expr("bool", nil, 2) + pick(m.r, []string{" then ", " continue "}) + "S" + strconv.Itoa(m.r.Intn(states)) + ";\n"
	}
	return s
}

// call returns a call of n, sometimes with a reset condition.
func (m *maker) call(n madeNode, clock []string, depth int) string {
	var l []string
	for _, kind := range n.in {
		l = append(l, m.expr(kind, clock, depth))
	}
	s := n.name + "(" + strings.Join(l, ", ") + ")"
	if m.r.Intn(2) == 0 {
		s += " every (" + m.expr("bool", clock, depth) + ")"
	}
	return s
}

// leaf returns a variable, a constant or a word.
func (m *maker) leaf(kind string, clock []string) string {
	var names []string
	for _, v := range m.now {
		if v.kind == kind && slices.Equal(v.clock, clock) {
			names = append(names, v.name)
		}
	}
	switch k := m.r.Intn(6); {
	case len(names) > 0 && k > 0:
		return pick(m.r, names)
	case kind == "int":
		return strconv.Itoa(m.r.Intn(4))
	case kind == "bool" && k < 4 && !m.pure:
		return pick(m.r, []string{"'0(1)'", "'1(01)'", "'(110)'"})
	}
	return pick(m.r, tagsOf(kind))
}

// expr returns an expression, in brackets if it has parts.
func (m *maker) expr(kind string, clock []string, depth int) string {
	if depth <= 0 {
		return m.leaf(kind, clock)
	}
	one := func() string { return m.expr(kind, clock, depth-1) }
	k := m.r.Intn(12)
	if m.pure && k > 3 {
		k = 9
	}
	switch {
	case k == 0:
		return "(if " + m.expr("bool", clock, depth-1) + " then " + one() + " else " + one() + ")"
	case k == 1:
		return m.merge(kind, clock, depth-1)
	case k == 2 && len(clock) > 0:
		n := len(clock) - 1
		return "(" + m.expr(kind, clock[:n], depth-1) + " when " + clock[n] + ")"
	case k == 4 && m.r.Intn(4) == 0:
		return "(pre " + m.delayed(kind, clock, depth-1) + ")"
	case k <= 6 && k > 3:
		return "(" + one() + " fby " + m.delayed(kind, clock, depth-1) + ")"
	case k == 7:
		return "(" + one() + " -> " + one() + ")"
	case k == 8:
		for _, n := range m.nodes {
			if len(n.out) == 1 && n.out[0] == kind {
				return "(" + m.call(n, clock, depth-1) + ")"
			}
		}
	}
	return m.operation(kind, clock, depth-1)
}

func (m *maker) operation(kind string, clock []string, depth int) string {
	one := func(kind string) string { return m.expr(kind, clock, depth) }
	switch k := m.r.Intn(4); {
	case kind == "int" && k < 3:
		return "(" + one("int") + " + " + one("int") + ")"
	case kind == "int":
		return "(- " + one("int") + ")"
	case kind == "E":
		return m.leaf(kind, clock)
	case k == 0:
		return "(not " + one("bool") + ")"
	case k == 1:
		return "(" + one("int") + " mod 3 < " + one("int") + ")"
	case k == 2:
		return "(" + one("E") + " = " + one("E") + ")"
	}
	return "(" + one("bool") + " xor " + one("bool") + ")"
}

// delayed returns an expression that may depend on all variables.
func (m *maker) delayed(kind string, clock []string, depth int) string {
	defer func(now []made) { m.now = now }(m.now)
	m.now = m.later
	return m.expr(kind, clock, depth)
}

// merge returns a merge, if there can be one on the clock.
func (m *maker) merge(kind string, clock []string, depth int) string {
	var l []made
	for _, v := range m.now {
		if v.kind != "int" && slices.Equal(v.clock, clock) {
			l = append(l, v)
		}
	}
	if len(l) == 0 || len(clock) > 3 {
		return m.leaf(kind, clock)
	}
	c := pick(m.r, l)
	s := "(merge " + c.name
	for _, tag := range tagsOf(c.kind) {
		s += " (" + tag + " -> " + m.expr(kind, append(slices.Clone(clock), tag+"("+c.name+")"), depth) + ")"
	}
	return s + ")"
}
