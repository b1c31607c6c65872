package scope

import (
	"math/rand"
	"slices"
	"strconv"
	"testing"

	"synchrony/api"
	"synchrony/parse"
	"synchrony/shape"
	"synchrony/show"
)

// maker makes programs whose names are right.
type maker struct {
	r       *rand.Rand
	enums   []api.Enum
	nodes   []api.Node
	visible []string
	pure    bool // whether expressions must have no state
}

// somePart returns a program whose names are right, with some names that occur as names of several kinds.
func somePart(r *rand.Rand) api.Program {
	m := &maker{r: r}
	m.enums = list(m, 0, 3, func(i int) api.Enum {
		return api.Enum{Name: "v" + strconv.Itoa(i), Tags: list(m, 1, 3, func(k int) string { return "T" + strconv.Itoa(i) + strconv.Itoa(k) })}
	})
	for i := range 1 + r.Intn(4) {
		m.node([]string{"v0", "T00", "f", "v9"}[i])
	}
	return api.Program{Enums: m.enums, Nodes: m.nodes}
}

// list has from least to most elements.
func list[T any](m *maker, least, most int, element func(i int) T) []T {
	var l []T
	for i := range least + m.r.Intn(most-least+1) {
		l = append(l, element(i))
	}
	return l
}

// fresh returns a name that is not visible.
func (m *maker) fresh() string {
	for i := 0; ; i++ {
		if s := "v" + strconv.Itoa(i); !slices.Contains(m.visible, s) {
			m.visible = append(m.visible, s)
			return s
		}
	}
}

func (m *maker) decl(int) api.Decl {
	return api.Decl{Name: m.fresh(), Type: 1 + m.r.Intn(2+len(m.enums))}
}

// locals adds samplings by all that is visible behind them.
func (m *maker) locals(most int) []api.Decl {
	l := list(m, 0, most, m.decl)
	for i := range l {
		l[i].Clock = list(m, 0, 2, func(int) api.On {
			t, v := m.tag()
			return api.On{Name: m.any(), T: t, Tag: v}
		})
	}
	return l
}

func (m *maker) any() string { return m.visible[m.r.Intn(len(m.visible))] }

func (m *maker) tag() (int, int) {
	if i := m.r.Intn(1 + len(m.enums)); i > 0 {
		return api.TEnum + i - 1, m.r.Intn(len(m.enums[i-1].Tags))
	}
	return api.TBool, m.r.Intn(2)
}

func (m *maker) node(name string) {
	m.visible = nil
	n := api.Node{Name: name, In: list(m, 0, 3, m.decl)}
	if len(n.In) > 0 {
		n.Assume = list(m, 0, 2, func(int) api.Expr { return m.expr(2) })
	}
	n.Out = list(m, 1, 3, m.decl)
	n.Ensure = list(m, 0, 2, func(int) api.Expr { return m.expr(2) })
	n.Locals = m.locals(3)
	n.Eqs, n.Autos = m.body(append(namesOf(n.Out), namesOf(n.Locals)...), 0)
	m.nodes = append(m.nodes, n)
}

// body defines the names, in automata if they are nested in fewer than MaxNest others.
func (m *maker) body(names []string, nest int) ([]api.Eq, []api.Auto) {
	m.r.Shuffle(len(names), func(i, j int) { names[i], names[j] = names[j], names[i] })
	var eqs []api.Eq
	for len(names) > 0 && m.r.Intn(4) > 0 {
		x := m.equation(names)
		eqs, names = append(eqs, x), names[len(x.Left):]
	}
	var autos []api.Auto
	for len(names) > 0 && nest < api.MaxNest && len(autos) < 2 {
		k := 1 + m.r.Intn(len(names))
		autos, names = append(autos, m.auto(slices.Clone(names[:k]), nest+1)), names[k:]
	}
	for len(names) > 0 {
		x := m.equation(names)
		eqs, names = append(eqs, x), names[len(x.Left):]
	}
	return eqs, autos
}

// equation defines one of the names or the first ones.
func (m *maker) equation(names []string) api.Eq {
	fitting := slices.DeleteFunc(slices.Clone(m.nodes), func(n api.Node) bool { return len(n.Out) > len(names) })
	if len(fitting) == 0 || m.r.Intn(2) == 0 {
		return api.Eq{Left: names[:1:1], Right: m.expr(3)}
	}
	n := fitting[m.r.Intn(len(fitting))]
	return api.Eq{Left: slices.Clone(names[:len(n.Out)]), Right: m.call(n, 2)}
}

func (m *maker) auto(names []string, nest int) api.Auto {
	n := 1 + m.r.Intn(3)
	around := slices.Clip(m.visible)
	var a api.Auto
	for i := range n {
		m.visible = around
		s := api.State{Name: "v" + strconv.Itoa(i)}
		s.Unless = m.transitions(n, true)
		s.Locals = m.locals(2)
		s.Eqs, s.Autos = m.body(append(slices.Clone(names), namesOf(s.Locals)...), nest)
		s.Until = m.transitions(n, false)
		a.States = append(a.States, s)
	}
	m.visible = around
	return a
}

func (m *maker) transitions(states int, pure bool) []api.Trans {
	m.pure = pure
	l := list(m, 0, 2, func(int) api.Trans {
		return api.Trans{Cond: m.expr(2), To: m.r.Intn(states), Resume: m.r.Intn(2) == 0}
	})
	m.pure = false
	return l
}

func (m *maker) call(n api.Node, depth int) api.Expr {
	e := call(n.Name)
	e.V = m.r.Intn(2)
	for range len(n.In) + e.V {
		e.Args = append(e.Args, m.expr(depth))
	}
	return e
}

func (m *maker) expr(depth int) api.Expr {
	t, v := m.tag()
	if depth == 0 {
		switch k := m.r.Intn(8); {
		case k == 0:
			return api.Expr{Kind: api.EConst, T: t, V: v}
		case k == 1:
			return number(m.r.Intn(65536) - 32768)
		case k == 2 && !m.pure:
			return api.Expr{Kind: api.EWord, Name: "1(01)"}
		}
		return variable(m.any())
	}
	args := func(n int) []api.Expr {
		var l []api.Expr
		for range n {
			l = append(l, m.expr(m.r.Intn(depth)))
		}
		return l
	}
	one := slices.DeleteFunc(slices.Clone(m.nodes), func(n api.Node) bool { return len(n.Out) != 1 })
	switch k := m.r.Intn(8); {
	case k == 0:
		return with(api.EIf, args(3)...)
	case k == 1:
		return api.Expr{Kind: api.EWhen, Name: m.any(), T: t, V: v, Args: args(1)}
	case k == 2 && t == api.TBool:
		return api.Expr{Kind: api.EMerge, Name: m.any(), T: t, Args: args(2)}
	case k == 2:
		return api.Expr{Kind: api.EMerge, Name: m.any(), T: t, Args: args(len(m.enums[t-api.TEnum].Tags))}
	case k == 3 && !m.pure:
		return with(api.EPre, args(1)...)
	case k == 4 && !m.pure:
		return with([]int{api.EArrow, api.EFby}[m.r.Intn(2)], args(2)...)
	case k == 5 && !m.pure && len(one) > 0:
		return m.call(one[m.r.Intn(len(one))], depth-1)
	case k == 6:
		return api.Expr{Kind: api.EOp, Op: 1 + m.r.Intn(2), Args: args(1)}
	}
	return api.Expr{Kind: api.EOp, Op: 3 + m.r.Intn(14), Args: args(2)}
}

// rightPrograms calls f with programs whose names are right; they are the same in each run.
func rightPrograms(t *testing.T, n int, f func(p api.Program)) {
	t.Helper()
	r := rand.New(rand.NewSource(5))
	for range n {
		p := somePart(r)
		if w, e := Check(p); w != (api.Where{}) || e != api.OK {
			t.Fatalf("Check = %v, %d of %+v", w, int(e), p)
		}
		f(p)
		if t.Failed() {
			t.Fatalf("%+v", p)
		}
	}
}

// TestRightPrograms is P10.5, but for Fresh.
func TestRightPrograms(t *testing.T) {
	rightPrograms(t, 1000, func(p api.Program) {
		for i, n := range p.Nodes {
			defined := Defined(n)
			for k, d := range Vars(n) {
				if slices.Contains(defined, d.Name) == (k < len(n.In)) {
					t.Errorf("%s of %s is in Defined: %v", d.Name, n.Name, defined)
				}
			}
			if calls := Calls(p, i); len(calls) > 0 && slices.Max(calls) >= i {
				t.Errorf("%s calls %v", n.Name, calls)
			}
		}
		for q := p; len(q.Nodes) > 0; {
			q.Nodes = q.Nodes[:len(q.Nodes)-1]
			expectCheck(t, "the first nodes", q, api.Where{}, api.OK)
		}
	})
}

// TestFreshLocals is P10.5.
func TestFreshLocals(t *testing.T) {
	r := rand.New(rand.NewSource(6))
	rightPrograms(t, 500, func(p api.Program) {
		for range 5 {
			name := Fresh(p, []string{"v", "T0", "x", "v_1", "f"}[r.Intn(5)])
			n := &p.Nodes[r.Intn(len(p.Nodes))]
			n.Locals = append(n.Locals, api.Decl{Name: name, Type: api.TInt})
			n.Eqs = append(n.Eqs, eq(number(7), name))
			expectCheck(t, name, p, api.Where{}, api.OK)
		}
	})
}

// TestTextOfRight is P9.4 and G1: the text of a program whose names are right is read as that program.
func TestTextOfRight(t *testing.T) {
	rightPrograms(t, 1000, func(p api.Program) {
		s, e := show.Program(p)
		if e != api.OK {
			t.Errorf("Program: error %d", int(e))
		}
		q, at, e := parse.Program(s)
		if len(s) > api.MaxText {
			if e != api.ErrLimit {
				t.Errorf("%d bytes: error %d", len(s), int(e))
			}
		} else if e != api.OK || at != 0 || !shape.Same(p, q) {
			t.Errorf("error %d at %d, or another program than\n%s", int(e), at, s)
		}
	})
}
