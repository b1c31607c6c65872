package sched

import (
	"slices"
	"strconv"
	"testing"

	"synchrony/api"
)

// example has equations, their order (as far as there is one), and the error.
type example struct {
	what  string
	eqs   []api.NEq
	order []int
	e     api.Errno
}

func (x example) check(t *testing.T) {
	t.Helper()
	n := api.NNode{Name: "f", In: []api.Decl{{Name: "i", Type: api.TInt}}, Out: []api.Decl{{Name: "o", Type: api.TBool}}, Locals: []api.Decl{{Name: "l", Clock: []api.On{on("i", 1)}}}, Eqs: x.eqs}
	before := deepCopy(n)
	l, e := Order(n)
	if !slices.Equal(l, x.order) || e != x.e {
		t.Errorf("%s: the order is %v, the error %d; want %v, %d", x.what, l, int(e), x.order, int(x.e))
	}
	m, e := Node(n)
	want := api.NNode{}
	if x.e == api.OK {
		want = deepCopy(n)
		for i, k := range x.order {
			want.Eqs[i] = n.Eqs[k]
		}
	}
	if !sameNode(m, want) || e != x.e {
		t.Errorf("%s: Node is %v, the error %d", x.what, m, int(e))
	}
	if !sameNode(n, before) {
		t.Errorf("%s: the argument has changed", x.what)
	}
	expectNewMemory(t, n, m)
	if x.e == api.OK && !Right(m) {
		t.Errorf("%s: Right of the result of Node is false", x.what)
	}
	if Right(n) != refRight(n.Eqs) {
		t.Errorf("%s: Right is %v", x.what, Right(n))
	}
}

// TestExamples has the examples of P21.1 to P21.3 in the chapter.
func TestExamples(t *testing.T) {
	one, c := number(1), on("c", 1)
	for _, x := range []example{
		{"the example of Order", []api.NEq{def("a", v("b")), delay("d", v("a")), def("b", v("d"))}, []int{2, 0, 1}, api.OK},
		{"example 1", []api.NEq{def("p", one), def("q", one, c), def("r", one), def("s", one, c)}, []int{0, 2, 1, 3}, api.OK},
		{"example 2", []api.NEq{def("x", v("y")), def("y", v("x"))}, nil, api.ErrCycle},
		{"example 2 with a delay", []api.NEq{def("x", v("y")), delay("y", v("x"))}, []int{0, 1}, api.OK},
		{"no equations", nil, nil, api.OK},
		{"one equation", []api.NEq{def("x", one)}, []int{0}, api.OK},
	} {
		x.check(t)
	}
	before := api.NNode{Eqs: []api.NEq{def("a", v("b")), delay("d", v("a")), def("b", v("d"))}}
	if Right(before) {
		t.Error("Right of the node before")
	}
}

// TestReads is P21.1 and P21.3: each place in which an equation can read a variable, and none other.
func TestReads(t *testing.T) {
	x, one := def("x", number(1)), number(1)
	readers := []api.NEq{
		def("y", v("x")), def("y", sum("a", "x")), def("y", with(api.EIf, v("a"), v("b"), v("x"))), def("y", with(api.EIf, v("x"), v("b"), v("b"))),
		def("y", api.Expr{Kind: api.EWhen, Name: "x", T: api.TBool, Args: []api.Expr{v("a")}}), def("y", api.Expr{Kind: api.EWhen, Name: "a", T: api.TBool, Args: []api.Expr{v("x")}}),
		def("y", api.Expr{Kind: api.EMerge, Name: "x", T: api.TBool, Args: []api.Expr{one, one}}), def("y", api.Expr{Kind: api.EMerge, Name: "c", T: api.TBool, Args: []api.Expr{one, v("x")}}),
		def("y", with(api.EMerge, with(api.EMerge, with(api.EOp, with(api.EOp, v("x")))))), def("y", with(api.EPre, v("x"))), def("y", with(77, v("x"))), def("y", one, on("x", 1)), def("y", one, on("a", 0), on("b", 1), on("x", 0)),
		delay("y", v("x")), delay("y", one, on("x", 0)), {Kind: api.NWord, Left: []string{"y"}, Node: "(1)", Clock: []api.On{on("x", 1)}}, {Kind: api.NWord, Left: []string{"y"}, Right: v("x")},
		{Kind: api.NCall, Left: []string{"y"}, Args: []api.Expr{v("x")}}, {Kind: api.NCall, Left: []string{"y"}, Args: []api.Expr{one, v("a"), sum("a", "x")}}, {Kind: api.NCall, Left: []string{"y"}, Every: "x"},
		{Kind: api.NCall, Left: []string{"y"}, Clock: []api.On{on("x", 1)}}, {Kind: api.NCall, Left: []string{"y"}, Right: v("x")}, {Kind: api.NDef, Left: []string{"y"}, Args: []api.Expr{v("x")}}, {Kind: api.NDef, Left: []string{"y"}, Every: "x"}, {Left: []string{"y"}, Right: v("x")}, {Right: v("x")},
	}
	for i, reader := range readers {
		example{"the reader " + strconv.Itoa(i), []api.NEq{reader, x}, []int{1, 0}, api.OK}.check(t)
		example{"before the reader " + strconv.Itoa(i), []api.NEq{x, reader}, []int{0, 1}, api.OK}.check(t)
	}
	for i, other := range []api.NEq{
		def("y", one), def("x", v("y")), def("y", api.Expr{Kind: api.ECall, Name: "x"}), def("y", api.Expr{Kind: api.EWord, Name: "x"}), def("y", api.Expr{Kind: api.EState, Name: "x"}), def("y", api.Expr{Kind: api.EConst, Name: "x"}), def("y", api.Expr{Kind: api.EOp, Name: "x"}),
		{Kind: api.NCall, Left: []string{"y"}, Node: "x"}, {Kind: api.NWord, Left: []string{"y"}, Node: "x"}, def("y", v("X")), delay("x", one), {Left: []string{"x"}},
	} {
		example{"no reader " + strconv.Itoa(i), []api.NEq{other, x}, []int{0, 1}, api.OK}.check(t)
	}
}

// TestDefines is P21.1 and P21.3: each kind of equation, and each place in Left.
func TestDefines(t *testing.T) {
	reader := def("y", v("x"))
	for _, left := range [][]string{{"x"}, {"x", "a"}, {"a", "b", "x"}, {"x", "x"}} {
		for _, kind := range []int{api.NDef, api.NCall, api.NWord, 0, -1, 5} {
			example{"a definition of the kind " + strconv.Itoa(kind), []api.NEq{reader, {Kind: kind, Left: left}}, []int{1, 0}, api.OK}.check(t)
		}
		example{"a delay", []api.NEq{reader, {Kind: api.NDelay, Left: left}}, []int{0, 1}, api.OK}.check(t)
	}
	both := def("z", sum("x", "y", "x"))
	for _, x := range []example{
		{"a call of which both results are read", []api.NEq{both, {Kind: api.NCall, Left: []string{"x", "y"}}}, []int{1, 0}, api.OK},
		{"two definitions", []api.NEq{both, def("x", number(1)), def("y", number(1)), def("x", number(1))}, []int{1, 2, 3, 0}, api.OK},
		{"a definition and a delay", []api.NEq{reader, delay("x", number(1)), def("x", number(1)), delay("x", number(1))}, []int{1, 2, 0, 3}, api.OK},
		{"the empty name", []api.NEq{def("y", v("")), {Kind: api.NCall, Left: []string{""}, Every: ""}}, []int{1, 0}, api.OK},
		{"the empty name as a reset condition", []api.NEq{{Kind: api.NCall, Left: []string{"y"}, Every: ""}, def("", number(1))}, []int{0, 1}, api.OK},
		{"the empty name in a clock", []api.NEq{def("y", number(1), on("", 1)), def("", number(1))}, []int{1, 0}, api.OK},
		{"what no equation defines", []api.NEq{def("y", v("a")), reader}, []int{0, 1}, api.OK},
	} {
		x.check(t)
	}
}

// TestCycles is P21.3.
func TestCycles(t *testing.T) {
	one := number(1)
	for _, x := range []example{
		{"an equation that waits for itself", []api.NEq{def("x", v("x"))}, nil, api.ErrCycle},
		{"a clock of itself", []api.NEq{def("x", one, on("x", 1))}, nil, api.ErrCycle},
		{"a reset by itself", []api.NEq{{Kind: api.NCall, Left: []string{"y", "x"}, Every: "x"}}, nil, api.ErrCycle},
		{"a delay of itself", []api.NEq{delay("x", v("x"))}, []int{0}, api.OK},
		{"a delay on its own clock", []api.NEq{delay("x", one, on("x", 1))}, []int{0}, api.OK},
		{"three equations", []api.NEq{def("o", one), def("x", v("y")), def("y", v("z")), def("z", sum("o", "x"))}, nil, api.ErrCycle},
		{"two delays", []api.NEq{delay("x", v("y")), delay("y", v("x"))}, []int{0, 1}, api.OK},
		{"a delay in between", []api.NEq{def("x", v("y")), delay("y", v("z")), def("z", v("x"))}, []int{0, 2, 1}, api.OK},
		{"a delay of a cycle", []api.NEq{delay("d", v("x")), def("x", v("y")), def("y", v("x"))}, nil, api.ErrCycle},
		{"a delay that is also defined", []api.NEq{delay("x", v("y")), def("y", v("x")), def("x", v("y"))}, nil, api.ErrCycle},
		{"a second definition that waits", []api.NEq{def("x", one), def("y", v("x")), def("x", v("y"))}, nil, api.ErrCycle},
	} {
		x.check(t)
	}
}

// TestClocks is P21.1: which equation comes next.
func TestClocks(t *testing.T) {
	one, c, d := number(1), on("c", 1), on("c", 0)
	on2 := api.On{Name: "c", T: api.TEnum, Tag: 1}
	e := func(name string, ck ...api.On) api.NEq { return def(name, one, ck...) }
	for _, x := range []example{
		{"the first clock again", []api.NEq{e("p", c), e("q"), e("r", c), e("s"), e("u", c)}, []int{0, 2, 4, 1, 3}, api.OK},
		{"three clocks", []api.NEq{e("p"), e("q", c), e("r", d), e("s", d), e("u", c), e("w")}, []int{0, 5, 1, 4, 2, 3}, api.OK},
		{"samplings in another order", []api.NEq{e("p", c, d), e("q", d, c), e("r", c, d), e("s", d, c)}, []int{0, 2, 1, 3}, api.OK},
		{"a longer clock", []api.NEq{e("p", c), e("q", c, c), e("r", c), e("s", c, c)}, []int{0, 2, 1, 3}, api.OK},
		{"another type", []api.NEq{e("p", c), e("q", on2), e("r", c), e("s", on2)}, []int{0, 2, 1, 3}, api.OK},
		{"an equation that becomes possible on this clock", []api.NEq{e("p"), e("q", c), def("r", v("q"), c), def("s", v("q"))}, []int{0, 1, 2, 3}, api.OK},
		{"the last clock, not the first one", []api.NEq{e("p", c), def("q", v("p")), e("r", c), def("s", v("q"), c), e("u")}, []int{0, 2, 1, 4, 3}, api.OK},
		{"one that is less becomes possible", []api.NEq{def("p", v("u")), e("q"), e("r"), e("u"), e("w")}, []int{1, 2, 3, 0, 4}, api.OK},
		{"the least one of another clock", []api.NEq{def("p", v("u"), c), e("q", d), def("r", v("u"), d), e("u", d), e("w", c)}, []int{1, 3, 2, 0, 4}, api.OK},
		{"delays are no exception", []api.NEq{delay("p", one, c), e("q"), delay("r", one, c), delay("s", v("q"))}, []int{0, 2, 1, 3}, api.OK},
	} {
		x.check(t)
	}
}

// chain returns n equations, each of which waits for the one behind it.
func chain(n int) []api.NEq {
	var eqs []api.NEq
	for i := range n {
		eqs = append(eqs, def("x"+strconv.Itoa(i), v("x"+strconv.Itoa(i+1)), on("c", i%3)))
	}
	return eqs
}

// TestLimit is the chapter's section Errors: ErrLimit comes first, and Right has no limit.
func TestLimit(t *testing.T) {
	n := api.NNode{Eqs: chain(api.MaxGraph)}
	l, e := Order(n)
	if e != api.OK || len(l) != api.MaxGraph || l[0] != api.MaxGraph-1 || !slices.IsSortedFunc(l, func(a, b int) int { return b - a }) {
		t.Errorf("a chain: the error is %d, the order %v", int(e), l)
	}
	m, e := Node(n)
	if e != api.OK || !Right(m) || Right(n) {
		t.Errorf("Node of a chain returns the error %d", int(e))
	}
	m.Eqs = append(m.Eqs, def("y", v("x0")))
	if !Right(m) {
		t.Error("Right of more equations is false")
	}
	m.Eqs = append(m.Eqs, def("x0", v("y")))
	if Right(m) {
		t.Error("Right of a cycle of more equations is true")
	}
	for _, n := range []api.NNode{{Eqs: chain(api.MaxGraph + 1)}, m} {
		l, e := Order(n)
		m, f := Node(n)
		if len(l) > 0 || e != api.ErrLimit || !sameNode(m, api.NNode{}) || f != api.ErrLimit {
			t.Errorf("more equations: the errors are %d and %d", int(e), int(f))
		}
	}
}

// TestGreatest is P21.1 and P21.3 for as many reads as there can be of as many equations, all of which define the same variables.
func TestGreatest(t *testing.T) {
	var n api.NNode
	var names []string
	for i := range 300 {
		names = append(names, "x"+strconv.Itoa(i))
	}
	for i := range api.MaxGraph {
		n.Eqs = append(n.Eqs, api.NEq{Kind: api.NCall, Left: names, Clock: []api.On{on("c", i%2)}})
	}
	n.Eqs[0] = def("y", sum(append(names, names...)...))
	l, e := Order(n)
	if e != api.OK || len(l) != api.MaxGraph || l[0] != 1 || l[1] != 3 || l[api.MaxGraph-1] != 0 {
		t.Errorf("the error is %d, the order %v", int(e), l)
	}
	for i := range n.Eqs {
		n.Eqs[i].Right = n.Eqs[0].Right
	}
	if l, e := Order(n); e != api.ErrCycle || len(l) > 0 || Right(n) {
		t.Errorf("the error is %d", int(e))
	}
	deep := v("x0")
	for range 1<<16 - 1 {
		deep = with(api.EOp, deep)
	}
	n = api.NNode{Eqs: []api.NEq{{Left: []string{"y"}, Args: []api.Expr{deep}}, def("x0", number(1))}}
	if m, e := Node(n); e != api.OK || m.Eqs[0].Left[0] != "x0" || !Right(m) || Right(n) {
		t.Errorf("a nested expression: the error is %d", int(e))
	}
}
