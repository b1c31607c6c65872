package fuse

import (
	"math/rand"
	"reflect"
	"slices"
	"strconv"
	"testing"

	"synchrony/api"
	"synchrony/gen"
	"synchrony/obj"
	"synchrony/samples"
	"synchrony/sched"
)

// maker makes a class, statement by statement.
type maker struct {
	*rand.Rand
	api.Objects           // the classes before
	class       api.Class // the one that is made
}

// someObjects returns right object code.
func someObjects(r *rand.Rand) api.Objects {
	m := &maker{Rand: r, Objects: api.Objects{Enums: samples.Enums()}}
	for i := range 1 + r.Intn(2) {
		m.class = api.Class{Name: "f" + strconv.Itoa(i), In: m.decls("a", 2+r.Intn(3)), Locals: m.decls("v", 4+r.Intn(6))}
		for _, d := range m.decls("m", r.Intn(3)) {
			m.class.Mems = append(m.class.Mems, api.Mem{Name: d.Name, Type: d.Type})
		}
		if i > 0 {
			m.class.Insts = []api.Inst{{Name: "i", Class: "f0"}, {Name: "k", Class: "f0"}}
		}
		m.fill()
		m.Classes = append(m.Classes, m.class)
	}
	return m.Objects
}

func (m *maker) decls(letter string, n int) []api.Decl {
	var l []api.Decl
	for i := range n {
		l = append(l, api.Decl{Name: letter + strconv.Itoa(i), Type: pick(m.Rand, api.TBool, api.TBool, api.TEnum, api.TInt, api.TEnum+1)})
	}
	return l
}

// right reports whether the class is, and has no case in a case by the same variable.
func (m *maker) right() bool {
	return obj.Check(api.Objects{Enums: m.Enums, Classes: append(slices.Clone(m.Classes), m.class)}) == api.OK && !repeated(m.class.Step, nil)
}

// repeated reports whether a case in a list is in a case by the same variable. One of its branches is never executed then, and obj.Check ignores what earlier cases assign in theirs; but there it sees what is earlier in the same list, so that it can accept two cases and not the one that they are combined to.
func repeated(l []api.Stmt, around []string) bool {
	return slices.ContainsFunc(l, func(s api.Stmt) bool {
		if s.Kind != api.SCase {
			return false
		}
		within := append(slices.Clone(around), s.Name)
		in := func(branch []api.Stmt) bool { return repeated(branch, within) }
		return slices.Contains(around, s.Name) || slices.ContainsFunc(s.Branches, in)
	})
}

// fill adds steps to the class, and makes outputs of locals that they always assign.
func (m *maker) fill() {
	for range 60 + m.Intn(80) {
		before := m.class.Step
		m.class.Step = deepCopy(before)
		m.insert(m.statement())
		if !m.right() {
			m.class.Step = before
		}
	}
	for _, d := range slices.Clone(m.class.Locals) {
		before := m.class
		m.class.Out = append(slices.Clone(before.Out), d)
		m.class.Locals = slices.DeleteFunc(slices.Clone(before.Locals), func(x api.Decl) bool { return x.Name == d.Name })
		if !m.right() {
			m.class = before
		}
	}
}

// insert puts a statement at the end of a list, or close to it.
func (m *maker) insert(s api.Stmt) {
	lists := []*[]api.Stmt{&m.class.Step}
	for i := 0; i < len(lists); i++ {
		for k := range *lists[i] {
			for n := range (*lists[i])[k].Branches {
				lists = append(lists, &(*lists[i])[k].Branches[n])
			}
		}
	}
	at := pick(m.Rand, lists...)
	*at = slices.Insert(*at, len(*at)-m.Intn(min(len(*at), 2)+1), s)
}

// statement returns a statement that could be right somewhere.
func (m *maker) statement() api.Stmt {
	d := pick(m.Rand, slices.Concat(m.class.In, m.class.Locals)...)
	switch k := m.Intn(10); {
	case k < 5 && d.Type != api.TInt:
		return api.Stmt{Kind: api.SCase, Name: d.Name, T: d.Type, Branches: make([][]api.Stmt, []int{0, 2, 0, 3, 1}[d.Type])}
	case k == 5 && len(m.class.Mems) > 0:
		x := pick(m.Rand, m.class.Mems...)
		return store(x.Name, m.expression(x.Type))
	case k == 6 && len(m.class.Insts) > 0:
		s := call(pick(m.Rand, "i", "k"), "")
		for _, d := range m.Classes[0].In {
			s.Args = append(s.Args, m.expression(d.Type))
		}
		for range m.Classes[0].Out {
			s.Outs = append(s.Outs, pick(m.Rand, m.class.Locals...).Name)
		}
		return s
	case k == 7 && len(m.class.Insts) > 0:
		return reset(pick(m.Rand, "i", "k"))
	}
	d = pick(m.Rand, m.class.Locals...)
	return set(d.Name, m.expression(d.Type))
}

func (m *maker) expression(t int) api.Expr {
	of := func(d api.Decl) bool { return d.Type != t }
	vars := slices.DeleteFunc(slices.Concat(m.class.In, m.class.In, m.class.Locals), of)
	mems := slices.DeleteFunc(slices.Clone(m.class.Mems), func(x api.Mem) bool { return x.Type != t })
	switch k := m.Intn(6); {
	case k < 3 && len(vars) > 0:
		return v(pick(m.Rand, vars...).Name)
	case k == 3 && len(mems) > 0:
		return state(pick(m.Rand, mems...).Name)
	case k == 4 && t == api.TInt:
		return api.Expr{Kind: api.EOp, Op: api.OpAdd, Args: []api.Expr{m.expression(t), m.expression(t)}}
	case k == 4 && t == api.TBool:
		return api.Expr{Kind: api.EOp, Op: api.OpNot, Args: []api.Expr{m.expression(t)}}
	}
	return constant(t, m.Intn(min(2, len(vars)+1)))
}

// expectProgram is P24.4: the result is right object code with joined steps, and each class does the same.
func expectProgram(t *testing.T, r *rand.Rand, o api.Objects) api.Objects {
	t.Helper()
	before := deepCopy(o)
	is, e := Program(o)
	want := deepCopy(o)
	for i, c := range want.Classes {
		want.Classes[i].Step = refJoin(c.Step)
	}
	if e != api.OK || !obj.Same(is, want) {
		t.Fatalf("Program of\n%v is\n%v, want\n%v; the error is %d", o, is, want, int(e))
	}
	if !reflect.DeepEqual(deepCopy(o), before) {
		t.Errorf("the argument %v has changed", before)
	}
	expectNewMemory(t, o, is)
	if e := obj.Check(is); e != api.OK {
		t.Errorf("Check of the result returns %d", int(e))
	}
	if again, e := Program(is); e != api.OK || !obj.Same(again, is) {
		t.Errorf("Program of %v is %v; the error is %d", is, again, int(e))
	}
	for _, c := range o.Classes {
		expectSteps(t, r, o, is, c)
	}
	if t.Failed() {
		t.Fatalf("the object code is %v", o)
	}
	return is
}

// expectSteps checks that a class has the same steps in both.
func expectSteps(t *testing.T, r *rand.Rand, o, is api.Objects, c api.Class) {
	t.Helper()
	x, e := obj.New(o, c.Name)
	y, f := obj.New(is, c.Name)
	if e != api.OK || f != api.OK {
		t.Fatalf("New of %s returns the errors %d and %d", c.Name, int(e), int(f))
	}
	for _, row := range samples.Rows(r.Intn, o.Enums, c.In, 12) {
		want, _ := x.Step(row)
		if out, e := y.Step(row); e != api.OK || !slices.Equal(out, want) || !slices.Equal(x.Memory(), y.Memory()) {
			t.Errorf("%s: the outputs are %v, want %v, the memories %v, want %v; the error is %d", c.Name, out, want, y.Memory(), x.Memory(), int(e))
		}
	}
}

func casesOf(o api.Objects) int {
	n := 0
	for _, c := range o.Classes {
		n += Cases(c.Step)
	}
	return n
}

// TestProgram is P24.4 for random classes.
func TestProgram(t *testing.T) {
	r := rand.New(rand.NewSource(2))
	before, after, outputs := 0, 0, 0
	for range 300 {
		o := someObjects(r)
		is := expectProgram(t, r, o)
		before, after = before+casesOf(o), after+casesOf(is)
		for _, c := range o.Classes {
			outputs += len(c.Out)
		}
	}
	if after == 0 || after > before/2 || outputs < 1000 {
		t.Errorf("of %d cases there are still %d; there are %d outputs", before, after, outputs)
	}
}

// TestGenerated is P24.4 for the object code of programs, in which neighbouring equations are on the same clocks.
func TestGenerated(t *testing.T) {
	r := rand.New(rand.NewSource(3))
	before, after := 0, 0
	for range 200 {
		n, e := sched.Program(samples.Program(r.Intn))
		if e != api.OK {
			t.Fatalf("sched.Program returns the error %d", int(e))
		}
		o, e := gen.Program(n)
		if e != api.OK {
			t.Fatalf("gen.Program returns the error %d", int(e))
		}
		is := expectProgram(t, r, o)
		before, after = before+casesOf(o), after+casesOf(is)
	}
	if after == 0 || after > before*3/4 {
		t.Errorf("of %d cases there are still %d", before, after)
	}
}

// TestMeaning is P24.4 where combined cases read and store what others have assigned and stored.
func TestMeaning(t *testing.T) {
	r := rand.New(rand.NewSource(4))
	decls := func(t int, names ...string) []api.Decl {
		var l []api.Decl
		for _, name := range names {
			l = append(l, api.Decl{Name: name, Type: t})
		}
		return l
	}
	counter := api.Class{Name: "counter", Out: decls(api.TInt, "n"), Mems: []api.Mem{{Name: "m", Type: api.TInt, Init: 5}}, Step: seq(set("n", state("m")), store("m", api.Expr{Kind: api.EOp, Op: api.OpAdd, Args: []api.Expr{state("m"), number(1)}}))}
	c := api.Class{
		Name: "f", In: decls(api.TBool, "c", "d"), Out: decls(api.TInt, "x", "y"), Locals: decls(api.TInt, "p", "q"),
		Mems: []api.Mem{{Name: "m", Type: api.TInt}}, Insts: []api.Inst{{Name: "i", Class: "counter"}},
	}
	c.Step = seq(
		by("c", seq(set("p", state("m"))), seq(call("i", "p"))),
		by("c", nil, seq(store("m", v("p")), by("d", nil, seq(reset("i"))))),
		by("d", nil, nil),
		by("c", seq(store("m", number(7))), seq(by("d", seq(call("i", "q")), nil))),
		by("c", seq(let("x", 1)), seq(by("d", seq(set("x", v("q"))), seq(call("i", "x"))))),
		set("y", state("m")),
		by("c", seq(by("c", seq(store("m", v("p"))), seq(store("m", v("y"))))), nil),
	)
	is := expectProgram(t, r, api.Objects{Classes: []api.Class{counter, c}})
	if n := casesOf(is); n != 4 {
		t.Errorf("%d cases are left", n)
	}
}
