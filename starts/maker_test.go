package starts

import (
	"math/rand"
	"slices"
	"strconv"
	"strings"
)

// made is a variable of a node that is made: the names of its type and of its samplings, and whether it may be late.
type made struct {
	name, kind string
	clock      []string
	late       bool
}

func (v made) text() string {
	s := v.name + ": " + v.kind
	for _, x := range v.clock {
		s += " when " + x
	}
	return s
}

// madeNode has the name and the types of the inputs and outputs of a node.
type madeNode struct {
	name    string
	in, out []string
}

// maker makes texts of programs whose clocks are right.
type maker struct {
	r          *rand.Rand
	causal     bool // whether no variable depends on itself
	care       int  // one of so many parts is a slip; none, if it is 0
	nodes      []madeNode
	vars       []made // all variables of the node
	now, later []made // those on which the expression may depend at the same instant, and those that it may delay
}

// place is where an expression is: of a type, on a clock, with at most so many expressions around each other, and possibly late.
type place struct {
	kind  string
	clock []string
	depth int
	late  bool
}

// of returns the place of an argument of a type.
func (at place) of(kind string) place { return place{kind, at.clock, at.depth - 1, at.late} }

// early returns the place of an argument that must not be late.
func (at place) early(kind string) place { return place{kind, at.clock, at.depth - 1, false} }

func pick[T any](r *rand.Rand, l []T) T { return l[r.Intn(len(l))] }

// tagsOf returns the texts of the values of a type other than int.
func tagsOf(kind string) []string {
	if kind == "bool" {
		return []string{"true", "false"}
	}
	return []string{"P", "Q", "R"}
}

// program returns the text of a program.
func (m *maker) program() string {
	s := "type E = P | Q | R;\n"
	for range 1 + m.r.Intn(3) {
		s += m.node()
	}
	return s
}

func (m *maker) node() string {
	m.vars = nil
	n := madeNode{name: "f" + strconv.Itoa(len(m.nodes))}
	for range 1 + m.r.Intn(3) {
		n.in = append(n.in, m.declare(0).kind)
	}
	in := len(n.in)
	var out, locals []made
	for range m.r.Intn(7) {
		if v := m.declare(3); len(v.clock) == 0 && !v.late && m.r.Intn(4) == 0 {
			out = append(out, v)
		} else {
			locals = append(locals, v)
		}
	}
	out = append(out, m.declare(0))
	for _, v := range out {
		n.out = append(n.out, v.kind)
	}
	s := "node " + n.name + "(" + declsText(m.vars[:in]) + ") returns (" + declsText(out) + ")\n"
	if len(locals) > 0 {
		s += "var " + declsText(locals) + ";\n"
	}
	s += m.claim("assume ", m.vars[:in]) + m.claim("ensure ", slices.Concat(m.vars[:in], out))
	s += "let\n" + m.equations(in) + "tel\n"
	m.nodes = append(m.nodes, n)
	return s
}

// declare adds a variable, sometimes on the clock of the last one, or on one sampling more than another one.
func (m *maker) declare(samplings int) made {
	v := made{name: "v" + strconv.Itoa(len(m.vars)), kind: pick(m.r, []string{"bool", "bool", "int", "E"})}
	if samplings > 0 {
		v.late = m.r.Intn(3) == 0
		if c := pick(m.r, m.vars); c.kind != "int" && !c.late && len(c.clock) < samplings && m.r.Intn(3) == 0 {
			v.clock = append(slices.Clone(c.clock), pick(m.r, tagsOf(c.kind))+"("+c.name+")")
		} else if m.r.Intn(3) == 0 {
			v.clock = m.vars[len(m.vars)-1].clock
		}
	}
	m.vars = append(m.vars, v)
	return v
}

func declsText(vars []made) string {
	var l []string
	for _, v := range vars {
		l = append(l, v.text())
	}
	return strings.Join(l, "; ")
}

// claim returns a claim about the variables, or nothing.
func (m *maker) claim(word string, vars []made) string {
	if m.r.Intn(3) > 0 {
		return ""
	}
	m.now, m.later = vars, vars
	return word + m.expr(place{kind: "bool", depth: 2}) + ";\n"
}

// equations defines the variables from the first one on, in any order.
func (m *maker) equations(first int) string {
	var l []string
	for i := first; i < len(m.vars); {
		m.now, m.later = m.vars, m.vars
		if m.causal {
			m.now = m.vars[:i]
		}
		x, n := m.equation(m.vars[i:])
		l = append(l, x)
		i += n
	}
	m.r.Shuffle(len(l), func(i, j int) { l[i], l[j] = l[j], l[i] })
	return strings.Join(l, "")
}

// equation returns an equation that defines the first of the variables, and how many they are.
func (m *maker) equation(vars []made) (string, int) {
	v := vars[0]
	at := place{v.kind, v.clock, 1 + m.r.Intn(3), v.late}
	fits := func(kind string, w made) bool { return w.kind == kind && slices.Equal(w.clock, v.clock) }
	for _, n := range m.nodes {
		if k := len(n.out); k > 1 && k <= len(vars) && slices.EqualFunc(n.out, vars[:k], fits) {
			left := v.name
			for _, w := range vars[1:k] {
				left += ", " + w.name
			}
			return "(" + left + ") = " + m.call(n, at) + ";\n", k
		}
	}
	return v.name + " = " + m.expr(at) + ";\n", 1
}

// call returns a call of n, sometimes with a reset condition.
func (m *maker) call(n madeNode, at place) string {
	var l []string
	for _, kind := range n.in {
		l = append(l, m.expr(at.early(kind)))
	}
	s := n.name + "(" + strings.Join(l, ", ") + ")"
	if m.r.Intn(2) == 0 {
		s += " every (" + m.expr(at.early("bool")) + ")"
	}
	return s
}

// leaf returns a variable, a constant or a word.
func (m *maker) leaf(at place) string {
	var names []string
	for _, v := range m.now {
		if v.kind == at.kind && slices.Equal(v.clock, at.clock) && (at.late || !v.late) {
			names = append(names, v.name)
		}
	}
	switch k := m.r.Intn(5); {
	case len(names) > 0 && k > 0:
		return pick(m.r, names)
	case at.kind == "int":
		return strconv.Itoa(m.r.Intn(10))
	case at.kind == "bool" && k < 3:
		return pick(m.r, []string{"'0(1)'", "'1(01)'", "'(110)'"})
	}
	return pick(m.r, tagsOf(at.kind))
}

// slips reports whether something may be late where this is a misuse.
func (m *maker) slips() bool { return m.care > 0 && m.r.Intn(m.care) == 0 }

// expr returns an expression, in brackets if it has parts.
func (m *maker) expr(at place) string {
	at.late = at.late || m.slips()
	if at.depth <= 0 {
		return m.leaf(at)
	}
	same, early := at.of(at.kind), at.early(at.kind)
	switch k := m.r.Intn(9); {
	case k == 0:
		return "(if " + m.expr(at.of("bool")) + " then " + m.expr(same) + " else " + m.expr(same) + ")"
	case k == 1 && at.late:
		return "(pre " + m.delayed(early) + ")"
	case k == 2:
		return "(" + m.expr(early) + " fby " + m.delayed(early) + ")"
	case k <= 3:
		same.late = true
		return "(" + m.expr(early) + " -> " + m.expr(same) + ")"
	case k == 4:
		for _, n := range m.nodes {
			if len(n.out) == 1 && n.out[0] == at.kind {
				return "(" + m.call(n, at) + ")"
			}
		}
	case k == 5 && len(at.clock) > 0:
		n := len(at.clock) - 1
		same.clock = at.clock[:n]
		return "(" + m.expr(same) + " when " + at.clock[n] + ")"
	case k <= 6:
		return m.merge(at)
	}
	return m.operation(at)
}

func (m *maker) operation(at place) string {
	flag, number, tag := at.of("bool"), at.of("int"), at.of("E")
	switch k := m.r.Intn(4); {
	case at.kind == "int" && k < 2:
		return "(- " + m.expr(number) + ")"
	case at.kind == "int":
		return "(" + m.expr(number) + " + " + m.expr(number) + ")"
	case at.kind == "E":
		return m.leaf(at)
	case k == 0:
		return "(not " + m.expr(flag) + ")"
	case k == 1:
		return "(" + m.expr(number) + " < " + m.expr(number) + ")"
	case k == 2:
		return "(" + m.expr(tag) + " = " + m.expr(tag) + ")"
	}
	return "(" + m.expr(flag) + " xor " + m.expr(flag) + ")"
}

// delayed returns an expression that may depend on all variables.
func (m *maker) delayed(at place) string {
	defer func(now []made) { m.now = now }(m.now)
	m.now = m.later
	return m.expr(at)
}

// merge returns a merge, if there can be one on the clock.
func (m *maker) merge(at place) string {
	var l []made
	for _, v := range m.now {
		if v.kind != "int" && slices.Equal(v.clock, at.clock) && (!v.late || m.slips()) {
			l = append(l, v)
		}
	}
	if len(l) == 0 || len(at.clock) > 3 {
		return m.leaf(at)
	}
	c := pick(m.r, l)
	s := "(merge " + c.name
	for _, tag := range tagsOf(c.kind) {
		arg := at.early(at.kind)
		arg.clock = append(slices.Clone(at.clock), tag+"("+c.name+")")
		s += " (" + tag + " -> " + m.expr(arg) + ")"
	}
	return s + ")"
}
