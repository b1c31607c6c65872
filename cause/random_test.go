package cause

import (
	"math/rand"
	"slices"
	"strconv"
	"strings"
	"testing"

	"synchrony/api"
	"synchrony/shape"
)

// maker makes texts of programs whose names are right.
type maker struct {
	r          *rand.Rand
	inputs     []int    // how many inputs each node so far has
	now, later []string // the names on which an expression may depend at the same instant, and those that it may delay
}

func (m *maker) pick(l []string) string { return l[m.r.Intn(len(l))] }

// someProgram returns the text of a program; some of its nodes have no cycles.
func someProgram(r *rand.Rand) string {
	m := &maker{r: r}
	s := ""
	for i := range 1 + r.Intn(3) {
		n := 1 + r.Intn(2)
		s += m.node("f"+strconv.Itoa(i), n)
		m.inputs = append(m.inputs, n)
	}
	return s
}

func numbered(base string, n int) []string {
	var l []string
	for i := range n {
		l = append(l, base+strconv.Itoa(i))
	}
	return l
}

func (m *maker) node(name string, inputs int) string {
	in, vars := numbered("a", inputs), numbered("v", 1+m.r.Intn(7))
	all := slices.Concat(in, vars)
	slips := m.r.Intn(3) * 2 // one of so many equations may lead to a cycle; none, if it is 0
	var eqs, locals []string
	for i, v := range vars {
		m.now, m.later = all[:inputs+i], all
		if slips > 0 && m.r.Intn(slips) == 0 {
			m.now = all
		}
		if d := v + ": int"; i > 0 {
			for range m.r.Intn(8) / 6 {
				d += " when true(" + m.pick(m.now) + ")"
			}
			locals = append(locals, d)
		}
		eqs = append(eqs, v+" = "+m.expr(1+m.r.Intn(3))+";\n")
	}
	m.r.Shuffle(len(eqs), func(i, j int) { eqs[i], eqs[j] = eqs[j], eqs[i] })
	s := "node " + name + "(" + strings.Join(in, ": int; ") + ": int) returns (v0: int)\n"
	if len(locals) > 0 {
		s += "var " + strings.Join(locals, "; ") + ";\n"
	}
	return s + "let\n" + strings.Join(eqs, "") + "tel\n"
}

// expr returns an expression in brackets, unless it is a leaf.
func (m *maker) expr(depth int) string {
	if depth == 0 || m.r.Intn(6) == 0 {
		return m.pick([]string{"1", "'(01)'", m.pick(m.now), m.pick(m.now)})
	}
	one := func() string { return m.expr(depth - 1) }
	switch m.r.Intn(9) {
	case 0:
		return "(- " + one() + ")"
	case 1:
		return "(if " + one() + " then " + one() + " else " + one() + ")"
	case 2:
		return "(pre " + m.delayed(depth-1) + ")"
	case 3:
		return "(" + one() + " fby " + m.delayed(depth-1) + ")"
	case 4:
		return "(" + one() + " -> " + one() + ")"
	case 5:
		return "(" + one() + " when true(" + m.pick(m.now) + "))"
	case 6:
		return "(merge " + m.pick(m.now) + " (true -> " + one() + ") (false -> " + one() + "))"
	case 7:
		if len(m.inputs) > 0 {
			return m.call(m.r.Intn(len(m.inputs)), one)
		}
	}
	return "(" + one() + " + " + one() + ")"
}

func (m *maker) call(i int, one func() string) string {
	var l []string
	for range m.inputs[i] {
		l = append(l, one())
	}
	s := "(f" + strconv.Itoa(i) + "(" + strings.Join(l, ", ") + ")"
	if m.r.Intn(2) == 0 {
		s += " every (" + one() + ")"
	}
	return s + ")"
}

// delayed returns an expression that may depend on all variables.
func (m *maker) delayed(depth int) string {
	defer func(now []string) { m.now = now }(m.now)
	m.now = m.later
	return m.expr(depth)
}

// somePrograms calls f with programs that are the same in each run.
func somePrograms(t *testing.T, n int, f func(r *rand.Rand, p api.Program)) {
	t.Helper()
	r := rand.New(rand.NewSource(14))
	for range n {
		text := someProgram(r)
		p := read(t, text)
		f(r, p)
		if t.Failed() {
			t.Fatal(text)
		}
	}
}

// matrix tells for each two equations of a node whether the second one depends on the first one.
func matrix(n api.Node) [][]bool {
	m := make([][]bool, len(n.Eqs))
	for i, x := range n.Eqs {
		for _, y := range n.Eqs {
			uses := slices.ContainsFunc(x.Left, func(name string) bool { return isInstant(name, y.Right) || inClock(n, name, y.Left) })
			m[i] = append(m[i], uses)
		}
	}
	return m
}

// isInstant reports whether e depends instantaneously on the variable.
func isInstant(name string, e api.Expr) bool {
	if e.Name == name && (e.Kind == api.EVar || e.Kind == api.EWhen || e.Kind == api.EMerge) {
		return true
	}
	for i, a := range e.Args {
		if e.Kind != api.EPre && !(e.Kind == api.EFby && i == 1) && isInstant(name, a) {
			return true
		}
	}
	return false
}

// inClock reports whether the variable is in the clock of one of others.
func inClock(n api.Node, name string, others []string) bool {
	for _, d := range n.Locals {
		for _, on := range d.Clock {
			if on.Name == name && slices.Contains(others, d.Name) {
				return true
			}
		}
	}
	return false
}

// paths tells for each two vertices whether there is a path of one or more edges.
func paths(m [][]bool) [][]bool {
	p := make([][]bool, len(m))
	for i := range m {
		p[i] = slices.Clone(m[i])
	}
	for k := range p {
		for i := range p {
			for j := range p {
				p[i][j] = p[i][j] || p[i][k] && p[k][j]
			}
		}
	}
	return p
}

// cyclic returns the least vertex that is in a cycle, or -1.
func cyclic(m [][]bool) int {
	for i, row := range paths(m) {
		if row[i] {
			return i
		}
	}
	return -1
}

// TestReference is P14.1 and P14.3: the three functions are compared with a reference.
func TestReference(t *testing.T) {
	right, places := 0, map[api.Where]int{}
	somePrograms(t, 4000, func(r *rand.Rand, p api.Program) {
		where, want := api.Where{}, api.OK
		for i, n := range p.Nodes {
			m := matrix(n)
			var l []api.Edge
			for from, row := range m {
				for to, uses := range row {
					if uses {
						l = append(l, api.Edge{From: from, To: to})
					}
				}
			}
			expectEdges(t, "some program", p, i, l, api.OK)
			least := cyclic(m)
			order, e := Order(p, i)
			if (e == api.OK) != (least < 0) || e != api.OK && (e != api.ErrCycle || len(order) > 0) {
				t.Errorf("Order = %v, %d with the least equation %d in a cycle", order, int(e), least)
			}
			if e == api.OK {
				isLeastOrder(t, m, order)
			} else if want == api.OK {
				where, want = api.Where{Node: i, Eq: least}, api.ErrCycle
			}
		}
		expectCheck(t, "some program", p, where, want)
		if want == api.OK {
			right++
		} else {
			places[where]++
		}
	})
	if right < 1000 || right > 3000 || len(places) < 15 {
		t.Errorf("%d programs without cycles, and cycles at %v", right, places)
	}
}

// isLeastOrder checks that each next vertex of the order is the least one whose predecessors are all before.
func isLeastOrder(t *testing.T, m [][]bool, order []int) {
	t.Helper()
	if len(order) != len(m) {
		t.Errorf("the order %v of %d equations", order, len(m))
	}
	for i, v := range order {
		done := order[:i]
		for w := range m {
			ready := !slices.Contains(done, w)
			for from := range m {
				ready = ready && (!m[from][w] || slices.Contains(done, from))
			}
			if w < v && ready || w == v && !ready {
				t.Errorf("%d at the place %d of the order %v", v, i, order)
			}
		}
	}
}

// TestDelays is P14.2: nothing changes if what is delayed is replaced.
func TestDelays(t *testing.T) {
	delays := 0
	somePrograms(t, 2000, func(r *rand.Rand, p api.Program) {
		i := r.Intn(len(p.Nodes))
		before, _ := Edges(p, i)
		n := p.Nodes[i]
		var replace func(e *api.Expr)
		replace = func(e *api.Expr) {
			for k := range e.Args {
				if e.Kind == api.EPre || e.Kind == api.EFby && k == 1 {
					e.Args[k] = api.Expr{Kind: api.EVar, Name: n.Eqs[r.Intn(len(n.Eqs))].Left[0]}
					delays++
				}
				replace(&e.Args[k])
			}
		}
		for k := range n.Eqs {
			replace(&n.Eqs[k].Right)
		}
		expectEdges(t, "with other delays", p, i, before, api.OK)
	})
	if delays < 2000 {
		t.Errorf("only %d delays", delays)
	}
}

// TestPermutation is P14.4: with the equations in another order, the edges are those between the same equations, and the same nodes have cycles.
func TestPermutation(t *testing.T) {
	errors := map[api.Errno]int{}
	somePrograms(t, 2000, func(r *rand.Rand, p api.Program) {
		where, want := Check(p)
		errors[want]++
		q := p
		q.Nodes = slices.Clone(p.Nodes)
		for i, n := range p.Nodes {
			to := r.Perm(len(n.Eqs))
			q.Nodes[i].Eqs = make([]api.Eq, len(to))
			for k, x := range n.Eqs {
				q.Nodes[i].Eqs[to[k]] = x
			}
		}
		for i, n := range p.Nodes {
			l, _ := Edges(p, i)
			for k, x := range l {
				l[k] = api.Edge{From: slices.IndexFunc(q.Nodes[i].Eqs, defines(n.Eqs[x.From].Left[0])), To: slices.IndexFunc(q.Nodes[i].Eqs, defines(n.Eqs[x.To].Left[0]))}
			}
			slices.SortFunc(l, func(a, b api.Edge) int { return (a.From-b.From)*api.MaxEqs + a.To - b.To })
			expectEdges(t, "in another order", q, i, l, api.OK)
			_, before := Order(p, i)
			if _, e := Order(q, i); e != before {
				t.Errorf("Order: error %d, and %d in another order", int(before), int(e))
			}
		}
		if w, e := Check(q); w.Node != where.Node || e != want {
			t.Errorf("Check = %v, %d, and %v, %d in another order", where, int(want), w, int(e))
		}
	})
	if errors[api.OK] < 500 || errors[api.ErrCycle] < 500 {
		t.Errorf("%v", errors)
	}
}

func defines(name string) func(x api.Eq) bool {
	return func(x api.Eq) bool { return slices.Contains(x.Left, name) }
}

// TestArguments is rule 4 for the program and for the results.
func TestArguments(t *testing.T) {
	r := rand.New(rand.NewSource(15))
	for range 200 {
		text := someProgram(r)
		p := read(t, text)
		for range 2 {
			Check(p)
			for i := range p.Nodes {
				l, _ := Edges(p, i)
				clear(l)
				order, _ := Order(p, i)
				clear(order)
			}
		}
		if !shape.Same(p, read(t, text)) {
			t.Fatalf("another program than\n%s", text)
		}
	}
}
