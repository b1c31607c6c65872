package obj

import (
	"math/rand"
	"slices"
	"strconv"
	"testing"

	"synchrony/api"
)

// maker makes classes, statement by statement.
type maker struct {
	r       *rand.Rand
	t       *testing.T
	o       api.Objects // the classes before, and the one that is made
	refused map[api.Errno]int
}

func types() []int { return []int{api.TBool, api.TBool, api.TInt, api.TEnum} }

// someObjects returns right object code. All that is refused on the way is compared with the reference.
func someObjects(t *testing.T, r *rand.Rand, refused map[api.Errno]int) api.Objects {
	m := &maker{r: r, t: t, o: api.Objects{Enums: enums()[:1]}, refused: refused}
	for i := range 1 + r.Intn(3) {
		m.class("c" + strconv.Itoa(i))
	}
	return m.o
}

func (m *maker) decls(letter string, n int) []api.Decl {
	var l []api.Decl
	for i := range n {
		l = append(l, api.Decl{Name: letter + strconv.Itoa(i), Type: pick(m.r, types()...)})
	}
	return l
}

func (m *maker) class(name string) {
	c := api.Class{Name: name, In: m.decls("i", 1+m.r.Intn(4)), Locals: m.decls("v", 2+m.r.Intn(6))}
	for _, d := range m.decls("m", m.r.Intn(4)) {
		c.Mems = append(c.Mems, api.Mem{Name: d.Name, Type: d.Type, Init: m.r.Intn(2)})
	}
	if earlier := m.o.Classes; len(earlier) > 0 {
		for i := range m.r.Intn(4) {
			c.Insts = append(c.Insts, api.Inst{Name: "x" + strconv.Itoa(i), Class: pick(m.r, earlier...).Name})
		}
	}
	m.o.Classes = append(m.o.Classes, c)
	is := &m.o.Classes[len(m.o.Classes)-1]
	for range 20 + m.r.Intn(100) {
		before := is.Step
		is.Step = deepCopy(before)
		m.insert(&is.Step, m.statement(*is))
		if !m.right() {
			is.Step = before
		}
	}
	// The locals that are always assigned can be outputs.
	for _, d := range slices.Clone(is.Locals) {
		before := *is
		is.Out = append(slices.Clone(is.Out), d)
		is.Locals = slices.DeleteFunc(slices.Clone(is.Locals), func(x api.Decl) bool { return x.Name == d.Name })
		if m.r.Intn(2) == 0 || !m.right() {
			*is = before
		}
	}
}

// right reports whether the object code is right.
func (m *maker) right() bool {
	e := Check(m.o)
	if want := refCheck(m.o); e != want {
		m.t.Fatalf("%v: Check returns %d, want %d", m.o, int(e), int(want))
	}
	m.refused[e]++
	return e == api.OK
}

// insert inserts a statement somewhere in a list, or in one of the branches in it.
func (m *maker) insert(l *[]api.Stmt, s api.Stmt) {
	lists := []*[]api.Stmt{l}
	for i := 0; i < len(lists); i++ {
		for k := range *lists[i] {
			for n := range (*lists[i])[k].Branches {
				lists = append(lists, &(*lists[i])[k].Branches[n])
			}
		}
	}
	at := pick(m.r, lists...)
	*at = slices.Insert(*at, len(*at)-m.r.Intn(min(len(*at), 2)+1), s)
}

// statement returns a statement that could be right somewhere.
func (m *maker) statement(c api.Class) api.Stmt {
	vars := variables(c)
	d := pick(m.r, vars...)
	switch k := m.r.Intn(10); {
	case k < 3:
		d = pick(m.r, c.Locals...)
		return assign(d.Name, m.expression(c, d.Type, m.r.Intn(3)))
	case k < 6 && d.Type != api.TInt:
		n := 2
		if d.Type == api.TEnum {
			n = 3
		}
		return api.Stmt{Kind: api.SCase, Name: d.Name, T: d.Type, Branches: make([][]api.Stmt, n)}
	case k == 6 && len(c.Mems) > 0:
		mem := pick(m.r, c.Mems...)
		return store(mem.Name, m.expression(c, mem.Type, m.r.Intn(3)))
	case k < 9 && len(c.Insts) > 0:
		return m.call(c, pick(m.r, c.Insts...))
	case len(c.Insts) > 0:
		return reset(pick(m.r, c.Insts...).Name)
	}
	d = pick(m.r, c.Locals...)
	return assign(d.Name, m.expression(c, d.Type, 1))
}

func (m *maker) call(c api.Class, x api.Inst) api.Stmt {
	i := slices.IndexFunc(m.o.Classes, func(c api.Class) bool { return c.Name == x.Class })
	s := api.Stmt{Kind: api.SCall, Name: x.Name}
	for _, d := range m.o.Classes[i].In {
		s.Args = append(s.Args, m.expression(c, d.Type, 1))
	}
	for _, d := range m.o.Classes[i].Out {
		s.Outs = append(s.Outs, m.named(c.Locals, d.Type))
	}
	return s
}

// named returns a variable, of the type if there is one.
func (m *maker) named(l []api.Decl, t int) string {
	of := slices.DeleteFunc(slices.Clone(l), func(d api.Decl) bool { return d.Type != t })
	if len(of) == 0 {
		return pick(m.r, l...).Name
	}
	return pick(m.r, of...).Name
}

func (m *maker) expression(c api.Class, t, depth int) api.Expr {
	one := func(t int) api.Expr { return m.expression(c, t, depth-1) }
	if depth > 0 {
		switch k := m.r.Intn(4); {
		case k == 0:
			return either(one(api.TBool), one(t), one(t))
		case t == api.TInt:
			return op(pick(m.r, api.OpAdd, api.OpSub, api.OpMul, api.OpDiv, api.OpMod), one(t), one(t))
		case t == api.TBool && k == 1:
			return op(api.OpNot, one(t))
		case t == api.TBool:
			operands := pick(m.r, types()...)
			return op(pick(m.r, api.OpEq, api.OpNe), one(operands), one(operands))
		}
	}
	mems := slices.DeleteFunc(slices.Clone(c.Mems), func(x api.Mem) bool { return x.Type != t })
	switch k := m.r.Intn(8); {
	case k == 0:
		return constant(t, m.r.Intn(2))
	case k < 3 && len(mems) > 0:
		return state(pick(m.r, mems...).Name)
	case k < 5:
		return v(m.named(c.In, t))
	}
	return v(m.named(variables(c), t))
}
