package gen

import (
	"reflect"
	"strings"
	"testing"

	"synchrony/api"
	"synchrony/sched"
)

// TestExample is P23.1: the example of the chapter, in both orders in which the equations can be scheduled.
func TestExample(t *testing.T) {
	y, x := def("y", sum(v("x"), number(1))), delay("x", 0, v("y"))
	n := api.NNode{Name: "f", Out: decls("y:i"), Locals: decls("x:i"), Eqs: []api.NEq{y, x}}
	want := api.Class{
		Name: "f", Out: decls("y:i"), Locals: decls("x:i"), Mems: []api.Mem{{Name: "m_1", Type: api.TInt}},
		Step: seq(assign("x", state("m_1")), assign("y", sum(v("x"), number(1))), store("m_1", v("y"))),
	}
	before := deepCopy(n)
	if c, e := Class(n); e != api.OK || !sameClass(c, want) {
		t.Errorf("the class is %v, want %v; the error is %d", c, want, int(e))
	}
	if !reflect.DeepEqual(n, before) {
		t.Errorf("the argument has become %v", n)
	}
	n.Eqs = []api.NEq{x, y} // the delay would store y before it is assigned
	if c, e := Class(n); e != api.ErrOrder || !sameClass(c, api.Class{}) {
		t.Errorf("the error is %d, the class %v", int(e), c)
	}
	n.Eqs = []api.NEq{delay("x", 3, v("x")), y}
	want.Mems[0].Init = 3
	want.Step = seq(assign("x", state("m_1")), store("m_1", v("x")), assign("y", sum(v("x"), number(1))))
	if c, e := Class(n); e != api.OK || !sameClass(c, want) {
		t.Errorf("the class is %v, want %v; the error is %d", c, want, int(e))
	}
}

// TestVariables is P23.1: the name and the variables of the node, without clocks.
func TestVariables(t *testing.T) {
	ck := []api.On{on("c", api.TBool, 7)}
	n := api.NNode{
		Name: "any name", In: []api.Decl{{Name: "a", Type: 9, Clock: ck}, {}}, Out: []api.Decl{{Name: "a", Type: -1, Clock: ck}},
		Locals: []api.Decl{{Name: "if", Type: 3, Clock: ck}, {Name: "c"}, {Name: "c"}},
	}
	c := made(t, n)
	if want := (api.Class{Name: n.Name, In: []api.Decl{{Name: "a", Type: 9}, {}}, Out: []api.Decl{{Name: "a", Type: -1}}, Locals: []api.Decl{{Name: "if", Type: 3}, {Name: "c"}, {Name: "c"}}}); !sameClass(c, want) {
		t.Errorf("the class is %v, want %v", c, want)
	}
	if c := made(t, api.NNode{}); !sameClass(c, api.Class{}) {
		t.Errorf("the class of nothing is %v", c)
	}
}

// TestDefinitions is P23.1: assignments, stripped, and cases for merges.
func TestDefinitions(t *testing.T) {
	a, b := v("a"), v("b")
	set := func(e api.Expr) api.Stmt { return assign("x", e) }
	for _, x := range []struct {
		e    api.Expr
		want api.Stmt
	}{
		{number(5), set(number(5))},
		{a, set(a)},
		{with(api.EIf, v("c"), sum(a, b), number(2)), set(either(v("c"), sum(a, b), number(2)))},
		{when("c", a), set(a)},
		{when("c", when("d", number(1))), set(number(1))},
		{when("c", a, b), set(a)},
		{when("c"), set(when("c"))},
		{when("c", when("d")), set(when("d"))},
		{sum(when("c", a), sum(when("d", when("c", b)), when("c"))), set(sum(a, sum(b, when("c"))))},
		{with(api.ECall, when("c", a)), set(with(api.ECall, a))},
		{merge("c", api.TBool, a, when("c", b)), by("c", api.TBool, seq(set(a)), seq(set(b)))},
		{merge("e", api.TEnum, a, merge("c", api.TBool, number(1), number(2)), sum(when("c", b), b)), by("e", api.TEnum, seq(set(a)), seq(by("c", api.TBool, seq(set(number(1))), seq(set(number(2))))), seq(set(sum(b, b))))},
		{merge("e", 99, a), by("e", 99, seq(set(a)))},
		{merge("c", api.TBool), by("c", api.TBool)},
		{sum(merge("c", api.TBool, when("c", a), b)), set(sum(merge("c", api.TBool, a, b)))},
		{when("c", merge("c", api.TBool, a, when("c", b))), set(merge("c", api.TBool, a, b))},
		{api.Expr{Kind: 77, Op: 1, T: 2, V: 3, Name: "k", Args: []api.Expr{when("c", a)}}, set(api.Expr{Kind: 77, Op: 1, T: 2, V: 3, Name: "k", Args: []api.Expr{a}})},
		{api.Expr{}, set(api.Expr{})},
	} {
		expectSteps(t, def("x", x.e), x.want)
	}
	expectSteps(t, def("", a), assign("", a))
	expectSteps(t, def("x y", a), set(a))
	expectSteps(t, def("", merge("c", api.TBool, a)), by("c", api.TBool, seq(assign("", a))))
	// Fields that a definition does not have make no difference.
	expectSteps(t, api.NEq{Kind: api.NDef, Left: []string{"x"}, Right: a, Init: 3, Node: "?", Every: "c", Args: []api.Expr{b}}, set(a))
}

// TestDelays is P23.1: memories of the types of the variables, which are read before all else.
func TestDelays(t *testing.T) {
	c := made(t, some(
		def("x", sum(v("p"), v("a")), on("c", api.TBool, 1)),
		delay("p", -7, v("x"), on("c", api.TBool, 1)),
		delay("y q", 1, when("c", v("c"))),
		delay("r", 2, merge("c", api.TBool, when("c", v("e")), v("r")), on("e", api.TEnum, 0)),
		delay("u", 4, v("v")),
		delay("", 5, number(6)),
	))
	mems := []api.Mem{{Name: "m_1", Type: api.TInt, Init: -7}, {Name: "m_2", Type: api.TBool, Init: 1}, {Name: "m_3", Type: api.TEnum, Init: 2}, {Name: "m_4", Init: 4}, {Name: "m_5", Init: 5}}
	if !reflect.DeepEqual(c.Mems, mems) || len(c.Insts) > 0 {
		t.Errorf("the memories are %v, want %v; the instances are %v", c.Mems, mems, c.Insts)
	}
	want := seq(
		assign("p", state("m_1")), assign("y", state("m_2")), assign("r", state("m_3")), assign("u", state("m_4")), assign("", state("m_5")),
		by("c", api.TBool, nil, seq(assign("x", sum(v("p"), v("a"))))),
		by("c", api.TBool, nil, seq(store("m_1", v("x")))),
		store("m_2", when("c", v("c"))), // only what is assigned is stripped
		by("e", api.TEnum, seq(store("m_3", merge("c", api.TBool, when("c", v("e")), v("r"))))),
		store("m_4", v("v")),
		store("m_5", number(6)),
	)
	if !sameStmts(c.Step, want) {
		t.Errorf("the steps are\n%v, want\n%v", c.Step, want)
	}
	// The first declaration of a variable counts, inputs before outputs before locals; the empty name can be declared, too.
	n := api.NNode{In: decls("s:b"), Out: decls("s:i t:b t:i"), Locals: decls("t:e u:e u:b"), Eqs: []api.NEq{delay("s", 0, v("a")), delay("t", 0, v("a")), delay("u", 0, v("a")), delay("", 0, v("a"))}}
	n.Locals = append(n.Locals, api.Decl{Type: 8})
	for i, want := range []int{api.TBool, api.TBool, api.TEnum, 8} {
		if c := made(t, n); c.Mems[i].Type != want {
			t.Errorf("the memory %d has the type %d, want %d", i, c.Mems[i].Type, want)
		}
	}
}

// TestCalls is P23.1: an instance for each call, which is reset before it is executed.
func TestCalls(t *testing.T) {
	a, b := v("a"), v("b")
	under := func(x api.NEq, ck ...api.On) api.NEq {
		x.Clock = ck
		return x
	}
	c := made(t, some(
		call("x y", "g", "", a, when("c", b)),
		call("p", "h", "c", sum(when("c", a), number(1))),
		under(call("q", "g", "y"), on("e", api.TEnum, 1)),
		call("", "", "r", merge("c", api.TBool, when("c", a), b)),
	))
	insts := []api.Inst{{Name: "i_1", Class: "g"}, {Name: "i_2", Class: "h"}, {Name: "i_3", Class: "g"}, {Name: "i_4"}}
	if !reflect.DeepEqual(c.Insts, insts) || len(c.Mems) > 0 {
		t.Errorf("the instances are %v, want %v; the memories are %v", c.Insts, insts, c.Mems)
	}
	want := seq(
		step("i_1", "x y", a, b),
		by("c", api.TBool, nil, seq(reset("i_2"))), step("i_2", "p", sum(a, number(1))),
		by("e", api.TEnum, nil, seq(by("y", api.TBool, nil, seq(reset("i_3"))), step("i_3", "q"))),
		by("r", api.TBool, nil, seq(reset("i_4"))), step("i_4", "", merge("c", api.TBool, a, b)),
	)
	if !sameStmts(c.Step, want) {
		t.Errorf("the steps are\n%v, want\n%v", c.Step, want)
	}
}

// TestWords is P23.1: a word is a memory with the number of the letter.
func TestWords(t *testing.T) {
	m := state("m_1")
	below := func(n int) api.Expr { return apply(api.OpLt, m, number(n)) }
	no, yes := truth(false), truth(true)
	next := func(last, head int) api.Expr {
		return either(apply(api.OpEq, m, number(last)), number(head), sum(m, number(1)))
	}
	for _, x := range []struct {
		text       string
		letter     api.Expr
		last, head int
	}{
		{"(1)", yes, 0, 0},
		{"(0)", no, 0, 0},
		{"1(1)", yes, 1, 1},
		{"(10)", either(below(1), yes, no), 1, 0},
		{"0(1)", either(below(1), no, yes), 1, 1},
		{"1(01)", either(below(1), yes, either(below(2), no, yes)), 2, 1},
		{"(110)", either(below(1), yes, either(below(2), yes, no)), 2, 0},
		{"00(1111)", either(below(3), either(below(1), no, either(below(2), no, yes)), yes), 5, 2},
		{"(00010)", either(below(2), no, either(below(3), no, either(below(4), yes, no))), 4, 0},
		{"0011(0011)", either(below(4), either(below(2), no, yes), either(below(6), no, yes)), 7, 4},
		{strings.Repeat("0", 63) + "(0)", no, 63, 63},
		{"(" + strings.Repeat("1", 64) + ")", yes, 63, 0},
		{strings.Repeat("0", 32) + "(" + strings.Repeat("1", 32) + ")", either(below(32), no, yes), 63, 32},
	} {
		expectSteps(t, word("y", x.text), assign("y", x.letter), store("m_1", next(x.last, x.head)))
	}
	expectSteps(t, word("", "(1)"), assign("", yes), store("m_1", next(0, 0)))
	expectSteps(t, word("y x", "(1)", on("c", api.TBool, 0)), by("c", api.TBool, seq(assign("y", yes), store("m_1", next(0, 0))), nil))
	c := made(t, some(word("x", "(1)"), delay("y", 1, v("c")), word("z", "1(0)")))
	mems := []api.Mem{{Name: "m_1", Type: api.TInt}, {Name: "m_2", Type: api.TBool, Init: 1}, {Name: "m_3", Type: api.TInt}}
	if !reflect.DeepEqual(c.Mems, mems) {
		t.Errorf("the memories are %v, want %v", c.Mems, mems)
	}
	if s := c.Step[0]; s.Kind != api.SAssign || s.Name != "y" || len(c.Step) != 6 {
		t.Errorf("the steps are %v", c.Step)
	}
}

// TestClocks is P23.1: statements under clocks; there are no more branches than the sampling needs, except for the type bool.
func TestClocks(t *testing.T) {
	set := seq(assign("x", number(1)))
	one := func(ck ...api.On) api.NEq { return def("x", number(1), ck...) }
	expectSteps(t, one(), set...)
	for _, x := range []struct {
		on       api.On
		branches [][]api.Stmt
	}{
		{on("c", api.TBool, 0), [][]api.Stmt{set, nil}},
		{on("c", api.TBool, 1), [][]api.Stmt{nil, set}},
		{on("e", api.TEnum, 0), [][]api.Stmt{set}},
		{on("e", api.TEnum, 1), [][]api.Stmt{nil, set}},
		{on("e", api.TEnum+20, 2), [][]api.Stmt{nil, nil, set}},
		{on("", api.TInt, 3), [][]api.Stmt{nil, nil, nil, set}},
		{on("?", 0, 1), [][]api.Stmt{nil, set}},
		{on("?", -1, 0), [][]api.Stmt{set}},
	} {
		expectSteps(t, one(x.on), by(x.on.Name, x.on.T, x.branches...))
	}
	full := make([][]api.Stmt, api.MaxTags)
	full[api.MaxTags-1] = set
	expectSteps(t, one(on("e", api.TEnum, api.MaxTags-1)), by("e", api.TEnum, full...))
	expectSteps(t, one(on("c", api.TBool, 1), on("e", api.TEnum, 1), on("d", api.TBool, 0)), by("c", api.TBool, nil, seq(by("e", api.TEnum, nil, seq(by("d", api.TBool, set, nil))))))
	expectSteps(t, one(on("c", api.TBool, 1), on("c", api.TBool, 0)), by("c", api.TBool, nil, seq(by("c", api.TBool, set, nil))))
	expectSteps(t, def("x", merge("d", api.TBool, number(1)), on("c", api.TBool, 0)), by("c", api.TBool, seq(by("d", api.TBool, set)), nil))
}

// TestKinds is P23.1: an equation of another kind has no statements, and none under its clock either.
func TestKinds(t *testing.T) {
	for _, kind := range []int{0, -1, 5, 99} {
		x := api.NEq{Kind: kind, Left: []string{"x"}, Right: v("a"), Init: 1, Node: "g", Args: []api.Expr{v("a")}, Every: "c", Clock: []api.On{on("c", api.TBool, 1)}}
		c := made(t, some(x))
		if len(c.Step) > 0 || len(c.Mems) > 0 || len(c.Insts) > 0 {
			t.Errorf("the kind %d: the class is %v", kind, c)
		}
		c = made(t, some(x, def("y", v("c")), x))
		if !sameStmts(c.Step, seq(assign("y", v("c")))) {
			t.Errorf("the kind %d: the class is %v", kind, c)
		}
	}
}

// TestNames is P23.1: the names that the class adds are those of no variables.
func TestNames(t *testing.T) {
	n := api.NNode{
		In: decls("m_1:i i_2:b m_04:i"), Out: decls("m_3:i i_4:b"), Locals: decls("m_4:b i_1:i m:i m_6x:i i_6:i"),
		Eqs: []api.NEq{
			delay("m_3", 0, v("m_1")), call("i_4", "g", ""), word("m_4", "(1)"), call("i_1", "g", "i_2"), delay("m_7", 0, v("m_10")),
			call("", "i_7", ""), delay("m_2", 0, v("m_1")), call("m_8", "m_9", ""), call("i_9", "", ""),
		},
	}
	c := made(t, n)
	var mems, insts []string
	for _, m := range c.Mems {
		mems = append(mems, m.Name)
	}
	for _, x := range c.Insts {
		insts = append(insts, x.Name)
	}
	// Names that occur elsewhere than in a declaration do not count.
	if s := strings.Join(mems, " "); s != "m_2 m_5 m_6 m_7" {
		t.Errorf("the memories are %s", s)
	}
	if s := strings.Join(insts, " "); s != "i_3 i_5 i_7 i_8 i_9" {
		t.Errorf("the instances are %s", s)
	}
}

// TestClassErrors is P23.1: nodes without a class.
func TestClassErrors(t *testing.T) {
	wrong := func(ck ...api.On) api.NEq { return def("x", number(1), ck...) }
	late := def("y", v("p"))
	for i, x := range []struct {
		n api.NNode
		e api.Errno
	}{
		{some(late, def("p", number(1))), api.ErrOrder},
		{some(def("p", number(1)), late), api.OK},
		{some(def("x", v("x"))), api.ErrOrder},
		{some(wrong(on("x", api.TBool, 0))), api.ErrOrder},
		{some(wrong(on("c", api.TBool, -1))), api.ErrForm},
		{some(wrong(on("c", api.TBool, 2))), api.ErrForm},
		{some(wrong(on("c", api.TBool, 1))), api.OK},
		{some(wrong(on("e", api.TEnum, -1))), api.ErrForm},
		{some(wrong(on("e", api.TEnum, 15))), api.OK},
		{some(wrong(on("e", api.TEnum, 16))), api.ErrForm},
		{some(wrong(on("e", api.TInt, 15))), api.OK},
		{some(wrong(on("e", api.TInt, 16))), api.ErrForm},
		{some(wrong(on("e", 0, 15))), api.OK},
		{some(wrong(on("e", 0, -5))), api.ErrForm},
		{some(wrong(on("e", -9, 1<<62))), api.ErrForm},
		{some(wrong(on("c", api.TBool, 1), on("e", api.TEnum, 0), on("c", api.TBool, 2))), api.ErrForm},
		{some(def("z", v("e")), wrong(on("c", api.TBool, 5))), api.ErrForm},
		{some(delay("x", 0, v("a"), on("c", api.TBool, 5))), api.ErrForm},
		{some(word("y", "(1)", on("c", api.TBool, 5))), api.ErrForm},
		{some(api.NEq{Kind: api.NCall, Clock: []api.On{on("c", api.TBool, 5)}}), api.ErrForm},
		{some(api.NEq{Clock: []api.On{on("c", api.TBool, 5)}}), api.ErrForm},
		{some(word("y", "")), api.ErrForm},
		{some(word("y", "10")), api.ErrForm},
		{some(word("y", "10()")), api.ErrForm},
		{some(word("y", "'(10)'")), api.ErrForm},
		{some(word("y", "(10)1")), api.ErrForm},
		{some(word("y", "(12)")), api.ErrForm},
		{some(word("y", strings.Repeat("0", 63)+"(1)")), api.OK},
		{some(word("y", strings.Repeat("0", 64)+"(1)")), api.ErrForm},
		{some(word("y", strings.Repeat("0", 1<<20)+"(1)")), api.ErrForm},
		{some(word("y", "(1)"), word("z", "(")), api.ErrForm},
		{some(call("x", "(", "")), api.OK},
		{some(api.NEq{Kind: api.NDef, Left: []string{"x"}, Right: v("a"), Node: "("}), api.OK},
		{some(word("y", "("), late, def("p", number(1))), api.ErrOrder},
		{some(wrong(on("c", api.TBool, 5)), late, def("p", number(1))), api.ErrOrder},
	} {
		c, e := Class(x.n)
		if e != x.e || e != api.OK && !sameClass(c, api.Class{}) {
			t.Errorf("%d: the error is %d, want %d; the class is %v", i, int(e), int(x.e), c)
		}
		if (e == api.ErrOrder) == sched.Right(x.n) {
			t.Errorf("%d: the error is %d, but Right is %v", i, int(e), sched.Right(x.n))
		}
	}
}
