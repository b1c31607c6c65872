package cause

import (
	"math"
	"strconv"
	"strings"
	"testing"

	"synchrony/api"
)

// node returns the text of a node with some outputs and some equations.
func node(outputs, eqs string) string {
	return "node f(a: int; c: bool) returns (" + strings.ReplaceAll(outputs, " ", ": int; ") + ": int) let " + eqs + " tel"
}

// TestExamples has the examples of the chapter, of P14.1 and P14.3.
func TestExamples(t *testing.T) {
	expectAll(t, node("k x y", "k = 1; x = y + 1; y = x - k;"), edges(0, 2, 1, 2, 2, 1), nil, 1)
	expectAll(t, node("x y", "x = y; y = 1;"), edges(1, 0), []int{1, 0}, -1)
	expectAll(t, node("x", "x = pre x + 1;"), nil, []int{0}, -1)
	expectAll(t, node("x", "x = x + 1;"), edges(0, 0), nil, 0)
	expectAll(t, node("x y", "x = 0 -> pre y; y = x;"), edges(0, 1), []int{0, 1}, -1)
	expectAll(t, "node f(i: int) returns (o: int) var x: int when true(c); a: int; c: bool; let x = a when true(c); o = i; c = o > 0; a = i; tel", edges(1, 2, 2, 0, 3, 0), []int{1, 2, 3, 0}, -1)
	expectAll(t, node("x y", "x = y + 1; y = x - 1;"), edges(0, 1, 1, 0), nil, 0)        // DOC.md, 3
	expectAll(t, node("x y", "x = 0 fby (y + x); y = x;"), edges(0, 1), []int{0, 1}, -1) // the second argument only
	expectAll(t, node("x y", "y = x; x = y fby 0;"), edges(0, 1, 1, 0), nil, 0)          // the first one
	expectCheck(t, "nothing", api.Program{}, api.Where{}, api.OK)
}

// TestKinds is the definition of dependency for each kind of expression and each argument of it. The equation 0 defines y, and 1 defines z.
func TestKinds(t *testing.T) {
	on := func(from ...int) []api.Edge {
		var l []api.Edge
		for _, v := range from {
			l = append(l, api.Edge{From: v, To: 2})
		}
		return l
	}
	for _, c := range []struct {
		right string
		want  []api.Edge
	}{
		{"1", nil}, {"'(10)'", nil}, {"a", nil}, {"P", nil}, {"y", on(0)}, {"z", on(1)}, {"x", on(2)}, {"x + z + y + z + x", on(0, 1, 2)},
		{"-y", on(0)}, {"y + a", on(0)}, {"a + y", on(0)}, {"z = y", on(0, 1)}, {"if y then a else a", on(0)}, {"if a then y else a", on(0)}, {"if a then a else y", on(0)}, {"if x then y else z", on(0, 1, 2)},
		{"y -> a", on(0)}, {"a -> y", on(0)}, {"z -> a -> y", on(0, 1)}, {"pre y", nil}, {"pre (y + z)", nil}, {"pre y + z", on(1)}, {"y fby a", on(0)}, {"a fby y", nil}, {"y fby z", on(0)}, {"y fby z fby x", on(0)}, {"(y fby z) fby x", on(0)}, {"(y fby z) -> x", on(0, 2)},
		{"y when true(c)", on(0)}, {"a when true(y)", on(0)}, {"z when P(y)", on(0, 1)}, {"pre (a when true(y))", nil}, {"(pre z) when true(y)", on(0)},
		{"merge c (true -> y) (false -> a)", on(0)}, {"merge c (true -> a) (false -> y)", on(0)}, {"merge y (true -> 0) (false -> 1)", on(0)}, {"merge z (P -> 0) (Q -> y)", on(0, 1)}, {"a fby merge z (P -> 0) (Q -> y)", nil},
		{"f(y, a)", on(0)}, {"f(a, z)", on(1)}, {"f(a, a) every x", on(2)}, {"f(y, pre z) every x", on(0, 2)}, {"pre f(y, z)", nil}, {"f(pre y, a fby z)", nil}, {"f(a, f(z, y))", on(0, 1)},
		{"1 -> pre (0 -> y)", nil}, {"if pre y then z fby y else 0 -> pre x", on(1)}, {"f(0, 0)", nil},
	} {
		p := read(t, "type E = P | Q; node f(a: int; f: int) returns (x: int) let x = a; tel node main(a: int; c: int; f: int) returns (y: int; x: int) var z: int; let y = 1; z = 2; x = "+c.right+"; tel")
		expectEdges(t, c.right, p, 1, c.want, api.OK)
		order, e, where, checked := []int{0, 1, 2}, api.OK, api.Where{}, api.OK
		if len(c.want) > 0 && c.want[len(c.want)-1].From == 2 {
			order, e, where, checked = nil, api.ErrCycle, api.Where{Node: 1, Eq: 2}, api.ErrCycle
		}
		expectOrder(t, c.right, p, 1, order, e)
		expectCheck(t, c.right, p, where, checked)
	}
}

// TestClocks: an equation depends on all clock variables of the variables on its left, and on those of no other ones.
func TestClocks(t *testing.T) {
	text := func(clocks, eqs string) string {
		return "node two() returns (x: int; y: int) let x = 1; y = 2; tel node f(c: bool) returns (o: bool) var " + clocks + "; let " + eqs + " tel"
	}
	for _, x := range []struct {
		clocks, eqs string
		edges       []api.Edge
		order       []int
		cyclic      int
	}{
		{"x: int when true(y); y: bool", "x = 1; y = c; o = c;", edges(1, 0), []int{1, 0, 2}, -1},
		{"x: int when true(c); y: bool", "x = 1; y = c; o = c;", nil, []int{0, 1, 2}, -1},
		{"x: int when true(y) when false(o); y: bool", "x = 1; y = c; o = c;", edges(1, 0, 2, 0), []int{1, 2, 0}, -1},
		{"x: int when true(c) when false(y) when true(y); y: bool", "x = pre x; y = c; o = c;", edges(1, 0), []int{1, 0, 2}, -1},
		{"x: int when true(y); y: bool", "x = y; y = pre (c when true(x)); o = x;", edges(0, 2, 1, 0), []int{1, 0, 2}, -1},
		{"x: bool when true(x)", "x = true; o = c;", edges(0, 0), nil, 0},
		{"x: bool when true(y); y: bool", "o = c; y = x; x = true;", edges(1, 2, 2, 1), nil, 1},
		{"x: bool when true(y); y: bool when false(x)", "o = c; y = true; x = true;", edges(1, 2, 2, 1), nil, 1},
		{"x: bool when true(o)", "o = merge o (true -> x) (false -> c); x = c;", edges(0, 0, 0, 1, 1, 0), nil, 0},
		{"x: int; y: int when true(o); z: int", "(x, y) = two(); z = 1; o = c;", edges(2, 0), []int{1, 2, 0}, -1},
		{"x: int when false(z); y: int when true(o); z: int", "(x, y) = two(); z = 1; o = c;", edges(1, 0, 2, 0), []int{1, 2, 0}, -1},
		{"x: int when true(y); y: int", "(x, y) = two(); o = c;", edges(0, 0), nil, 0},
	} {
		p := read(t, text(x.clocks, x.eqs))
		what := x.clocks + "; " + x.eqs
		expectEdges(t, what, p, 1, x.edges, api.OK)
		if x.cyclic < 0 {
			expectOrder(t, what, p, 1, x.order, api.OK)
			expectCheck(t, what, p, api.Where{}, api.OK)
		} else {
			expectOrder(t, what, p, 1, nil, api.ErrCycle)
			expectCheck(t, what, p, api.Where{Node: 1, Eq: x.cyclic}, api.ErrCycle)
		}
	}
}

// TestLeft: several variables on the left stand for one equation.
func TestLeft(t *testing.T) {
	text := func(eqs string) api.Program {
		return read(t, "node two(a: int) returns (x: int; y: int) let x = 1; y = a; tel node f(a: int) returns (x: int; y: int; z: int) let "+eqs+" tel")
	}
	p := text("z = x + y + x; (x, y) = two(a);")
	expectEdges(t, "both names", p, 1, edges(1, 0), api.OK)
	expectOrder(t, "both names", p, 1, []int{1, 0}, api.OK)
	for _, s := range []string{"(x, y) = two(x); z = a;", "(x, y) = two(y); z = a;"} {
		p = text(s)
		expectEdges(t, s, p, 1, edges(0, 0), api.OK)
		expectCheck(t, s, p, api.Where{Node: 1}, api.ErrCycle)
	}
	p = text("(x, y) = two(z); z = y;")
	expectEdges(t, "a cycle through a call", p, 1, edges(0, 1, 1, 0), api.OK)
	p = text("(x, y) = two(z); z = 0 fby y;")
	expectEdges(t, "a delayed cycle", p, 1, edges(1, 0), api.OK)
	expectOrder(t, "a delayed cycle", p, 1, []int{1, 0}, api.OK)
}

// TestLeast: of all equations in cycles, Check returns the least one; those that only lead to or from a cycle are in none.
func TestLeast(t *testing.T) {
	for eqs, want := range map[string]int{
		"x = y; y = z; z = w; w = w;": 3, "x = y; y = z; z = y; w = z;": 1, "x = 1; y = x; z = y + w; w = z;": 2, "x = w; y = 0; z = y; w = x;": 0, "x = y; y = z; z = w; w = x;": 0,
		"x = w; y = z; z = y; w = x;": 0, "x = z; y = y; z = z; w = x;": 1, "x = x; y = y; z = z; w = w;": 0, "w = z; z = y; y = z; x = 0;": 1, "w = x; z = w; y = z + y; x = 5;": 2,
	} {
		p := read(t, node("x y z w", eqs))
		expectCheck(t, eqs, p, api.Where{Eq: want}, api.ErrCycle)
		expectOrder(t, eqs, p, 0, nil, api.ErrCycle)
	}
}

// TestNodes: the first node with a cycle counts; what other nodes define does not.
func TestNodes(t *testing.T) {
	right, wrong := "(x: int) returns (y: int) let y = x; tel ", "(y: int) returns (x: int; z: int) let z = 1; x = x; tel "
	for s, where := range map[string]api.Where{
		"node f" + wrong + "node g" + wrong: {Node: 0, Eq: 1}, "node f" + right + "node g" + wrong: {Node: 1, Eq: 1}, "node f" + right + "node g" + right + "node h" + wrong + "node k" + right: {Node: 2, Eq: 1},
	} {
		expectCheck(t, s, read(t, s), where, api.ErrCycle)
	}
	p := read(t, "node f"+right+"node g"+wrong)
	expectOrder(t, "a node before the one with a cycle", p, 0, []int{0}, api.OK)
	expectOrder(t, "the one with a cycle", p, 1, nil, api.ErrCycle)
	expectCheck(t, "two nodes that exchange values", read(t, "node f"+right+"node g(a: int) returns (x: int; y: int) let x = f(0 fby y); y = f(x); tel"), api.Where{}, api.OK)
}

// TestErrors is the section Errors: first those of scope.Check, then automata, then the index of the node.
func TestErrors(t *testing.T) {
	check := func(what string, p api.Program, where api.Where, want api.Errno) {
		t.Helper()
		expectCheck(t, what, p, where, want)
		for _, i := range []int{-1, 0, 1, 2, math.MinInt, math.MaxInt} {
			expectEdges(t, what, p, i, nil, want)
			expectOrder(t, what, p, i, nil, want)
		}
	}
	cyclic := "node f() returns (x: int) let x = x; tel "
	auto := "automaton state S do y = 1; done end tel "
	check("an unknown name", read(t, cyclic+"node g() returns (y: int) let y = b; tel"), api.Where{Node: 1}, api.ErrName)
	check("an unknown name in a node with an automaton", read(t, cyclic+"node g() returns (y: int; z: int) let z = b; "+auto), api.Where{Node: 1}, api.ErrName)
	check("no definition", read(t, "node g() returns (y: int; z: int) let "+auto+cyclic), api.Where{Eq: -1}, api.ErrNone)
	check("two definitions", read(t, cyclic+"node g() returns (y: int) let y = 1; y = 2; tel"), api.Where{Node: 1, Eq: 1}, api.ErrTwice)
	check("a wrong call", read(t, cyclic+"node g() returns (y: int) let y = f(1); tel"), api.Where{Node: 1}, api.ErrArity)
	check("an automaton", read(t, cyclic+"node g() returns (y: int) let "+auto), api.Where{Node: -1, Eq: -1}, api.ErrArg)
	check("an automaton", read(t, "node g() returns (y: int) let "+auto+cyclic), api.Where{Node: -1, Eq: -1}, api.ErrArg)
	p := read(t, cyclic)
	p.Nodes[0].Out = nil
	check("no outputs", p, api.Where{Eq: -1}, api.ErrNone)
	p = read(t, cyclic)
	p.Nodes[0].Eqs[0].Right = api.Expr{Kind: api.EState, Name: "x"}
	check("no expression", p, api.Where{}, api.ErrForm)
	p = read(t, "node f() returns (x: int) let x = 1; tel")
	for _, i := range []int{-1, 1, 2, math.MinInt, math.MaxInt} {
		expectEdges(t, "no node", p, i, nil, api.ErrArg)
		expectOrder(t, "no node", p, i, nil, api.ErrArg)
	}
	expectEdges(t, "no nodes", api.Program{}, 0, nil, api.ErrArg)
	expectOrder(t, "no nodes", api.Program{}, 0, nil, api.ErrArg)
}

// TestNoOtherErrors: types, clocks and initialization are not checked.
func TestNoOtherErrors(t *testing.T) {
	for _, eqs := range []string{"x = true + 1; y = x;", "x = 1 when true(a); y = x;", "x = pre pre 1; y = x;", "x = merge a (true -> 0) (false -> c); y = x;"} {
		expectAll(t, node("x y", eqs), edges(0, 1), []int{0, 1}, -1)
	}
	expectCheck(t, "claims", read(t, "node f(a: int) returns (x: bool) assume a; ensure x and pre x; let x = true; tel"), api.Where{}, api.OK)
}

// TestMost is P14.1 and P14.3 for the most equations, each with the most names.
func TestMost(t *testing.T) {
	n := api.Node{Name: "f", Out: []api.Decl{{Name: "v0", Type: api.TInt}}}
	variable := func(i int) api.Expr { return api.Expr{Kind: api.EVar, Name: "v" + strconv.Itoa(i)} }
	sum := func(first, last int) api.Expr { // calls f0 with groups of names
		e := api.Expr{Kind: api.ECall, Name: "f0"}
		for len(e.Args) < 16 {
			inner := api.Expr{Kind: api.ECall, Name: "f0"}
			for len(inner.Args) < 16 {
				inner.Args = append(inner.Args, variable(first))
				first = min(first+1, last)
			}
			e.Args = append(e.Args, inner)
		}
		return e
	}
	const most = api.MaxEqs
	var want []api.Edge
	var order []int
	for i := range most {
		if i > 0 {
			n.Locals = append(n.Locals, api.Decl{Name: variable(i).Name, Type: api.TInt})
		}
		right := api.Expr{Kind: api.EConst, T: api.TInt}
		if i < most-1 {
			right = sum(i+1, most-1)
		}
		n.Eqs = append(n.Eqs, api.Eq{Left: []string{variable(i).Name}, Right: right})
		for k := range i {
			want = append(want, api.Edge{From: i, To: k})
		}
		order = append(order, most-1-i)
	}
	f0 := api.Node{Name: "f0", Out: []api.Decl{{Name: "x", Type: api.TInt}}, Eqs: []api.Eq{{Left: []string{"x"}, Right: api.Expr{Kind: api.EConst, T: api.TInt}}}}
	for i := range 16 {
		f0.In = append(f0.In, api.Decl{Name: "i" + strconv.Itoa(i), Type: api.TInt})
	}
	p := api.Program{Nodes: []api.Node{f0, n}}
	expectEdges(t, "the most", p, 1, want, api.OK)
	expectOrder(t, "the most", p, 1, order, api.OK)
	for i := 2; i < 10; i++ {
		n.Name = "f" + strconv.Itoa(i)
		p.Nodes = append(p.Nodes, n)
	}
	expectCheck(t, "the most", p, api.Where{}, api.OK)
	n.Eqs[most-1].Right = variable(100)
	expectCheck(t, "the most, and a cycle", p, api.Where{Node: 1, Eq: 100}, api.ErrCycle)
	expectOrder(t, "the most, and a cycle", p, 9, nil, api.ErrCycle)
}
