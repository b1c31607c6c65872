package simp

import (
	"testing"

	"synchrony/api"
)

// example has the outputs, locals and equations of a node with the inputs a, b, c, d, e, and those of the result: the same locals, if there are none.
type example struct{ out, vars, eqs, wantVars, want string }

const before = "type E = P | Q | R; node g(i: int; r: bool) returns (o: int) let o = i; tel node h(i: int) returns (o: int; q: bool) let o = i; q = '(10)'; tel node f(a: int; b: int; c: bool; d: bool; e: E) returns ("

func (x example) check(t *testing.T, f function) {
	t.Helper()
	s := before + x.out + ") "
	if x.vars != "" {
		s += "var " + x.vars + "; "
	}
	n := node(t, s+"let "+x.eqs+" tel")
	vars := x.vars
	if x.wantVars != "" {
		vars = x.wantVars
	}
	want := "let " + x.want + " tel"
	if vars != "" && vars != "-" {
		want = "var " + vars + "; " + want
	}
	copied := deepCopy(n)
	is := f.f(n)
	if l := text(enums(), is); l != want {
		t.Errorf("%s of\n%s\nis\n%s\nwant\n%s", f.name, text(enums(), n), l, want)
	}
	if !sameNode(n, copied) {
		t.Errorf("%s changed %s", f.name, x.eqs)
	}
	if !sameNode(f.ref(n), is) {
		t.Errorf("%s: the reference is\n%s", x.eqs, text(enums(), f.ref(n)))
	}
	expectNewMemory(t, f.name, n, is)
	if is.Name != n.Name || !sameNode(api.NNode{In: is.In, Out: is.Out}, api.NNode{In: n.In, Out: n.Out}) {
		t.Errorf("%s changed the ports", f.name)
	}
}

// TestConsts is P20.2.
func TestConsts(t *testing.T) {
	for _, x := range []example{
		{"y: int", "x: int", "x = 2; y = x + 1;", "", "x = 2; y = 3;"},
		{"y: int", "x: int", "y = x + 1; x = 2;", "", "y = 3; x = 2;"},
		{"y: int", "x: int", "x = 2; y = x;", "", "x = 2; y = 2;"},
		{"y: int", "x: int; z: int; w: int", "y = z + w; z = x + x; w = x * a; x = 2 - 1;", "", "y = 2 + w; z = 2; w = a; x = 1;"},
		{"y: bool", "x: E", "x = Q; y = x = e;", "", "x = Q; y = Q = e;"},
		{"y: bool", "x: E", "x = Q; y = x = R;", "", "x = Q; y = false;"},
		{"y: int", "", "y = a + 0;", "", "y = a;"},
		{"y: int", "", "y = a + b;", "", "y = a + b;"},
		{"y: int", "x: bool", "x = true; y = if x then a else b;", "", "x = true; y = a;"},
		{"y: int", "x: bool", "x = true fby true; y = if x then a else b;", "", "x = true; y = a;"},
		{"y: int", "x: bool", "x = true fby false; y = if x then a else b;", "", "x = true fby false; y = if x then a else b;"},
		{"y: int", "x: int", "x = 3 fby x; y = x;", "", "x = 3 fby x; y = x;"},
		{"y: int", "x: int; z: int", "x = 3 fby z; z = 1 + 2; y = x;", "", "x = 3; z = 3; y = 3;"},
		{"y: int", "x: int; z: int", "x = 3 fby z; z = 1 + 1; y = x;", "", "x = 3 fby 2; z = 2; y = x;"},
		{"y: int", "x: int; z: int; w: int", "x = 0 fby z; z = w; w = 0 fby 0; y = x + a;", "", "x = 0; z = 0; w = 0; y = a;"},
		{"y: E", "x: E", "x = P fby P; y = x;", "", "x = P; y = P;"},
		{"y: E", "x: E", "x = P fby R; y = x;", "", "x = P fby R; y = x;"},
		{"y: int", "x: int", "x = 2; y = g(x + 1, c) every c;", "", "x = 2; y = g(3, c) every c;"},
		{"y: int", "x: bool", "x = true; y = g(a + 0, x) every x;", "", "x = true; y = g(a, true) every x;"},
		{"y: int; z: bool", "x: int", "x = 2; (y, z) = h(x);", "", "x = 2; (y, z) = h(2);"},
		{"y: int; z: bool", "x: int", "(y, z) = h(1); x = y;", "", "(y, z) = h(1); x = y;"},
		{"y: bool", "x: bool", "x = '(1)'; y = x;", "", "x = '(1)'; y = x;"},
		{"y: int", "x: int", "x = 2; y = merge c (true -> x when true(c)) (false -> 1 + 1);", "", "x = 2; y = merge c (true -> 2) (false -> 2);"},
		{"y: int", "k: bool; x: int when true(k)", "k = true; x = a when true(k); y = merge k (true -> x) (false -> 0);", "", "k = true; x = a when true(k); y = merge k (true -> x) (false -> 0);"}, // names of merges stay
		{"y: int", "k: bool; x: int when true(k)", "k = not false; x = b when true(k); y = a;", "", "k = true; x = b when true(k); y = a;"},
		{"y: int", "x: int when true(c); z: int when true(c)", "x = 5; z = x + a when true(c); y = merge c (true -> x) (false -> 0);", "", "x = 5; z = 5 + (a when true(c)); y = merge c (true -> 5) (false -> 0);"},
		{"y: int", "x: int when true(c)", "x = 5 fby 5; y = merge c (true -> x) (false -> 0);", "", "x = 5; y = merge c (true -> 5) (false -> 0);"},
	} {
		x.check(t, functions()[0])
	}
}

// TestCopies is P20.3.
func TestCopies(t *testing.T) {
	for _, x := range []example{
		{"z: int", "x: int; y: int", "x = a + 1; y = x; z = y + 1;", "", "x = a + 1; y = x; z = x + 1;"},
		{"z: int", "x: int; y: int", "z = y + x; y = a; x = y;", "", "z = a + a; y = a; x = a;"},
		{"z: int", "x: int; y: int; w: int", "x = y; y = w; w = a + 1; z = x + y + w;", "", "x = w; y = w; w = a + 1; z = (w + w) + w;"},
		{"z: int", "x: int", "x = 0 fby z; z = x;", "", "x = 0 fby x; z = x;"},
		{"z: int", "x: int", "x = 1; z = x;", "", "x = 1; z = x;"},
		{"z: int", "x: int", "x = -a; z = x;", "", "x = -a; z = x;"},
		{"z: int", "x: int", "x = a; z = 3 fby x;", "", "x = a; z = 3 fby a;"},
		{"z: int", "k: bool", "k = c; z = g(if k then a else b, k) every k;", "", "k = c; z = g(if c then a else b, c) every c;"},
		{"y: int; z: int; q: bool", "x: int; k: bool", "(z, q) = h(a); x = z; k = q; y = g(x, k) every k;", "", "(z, q) = h(a); x = z; k = q; y = g(z, q) every q;"},
		{"z: bool", "k: bool", "k = '(10)'; z = k;", "", "k = '(10)'; z = k;"},
		{"z: int", "k: bool; x: int when true(k)", "k = c; x = a when true(k); z = merge k (true -> x) (false -> b when false(k));",
			"k: bool; x: int when true(c)", "k = c; x = a when true(c); z = merge c (true -> x) (false -> b when false(c));"},
		{"z: int", "k: E; m: bool when Q(k); n: bool when Q(k); x: int when Q(k) when false(n)", "k = e; m = c when Q(k); n = m; x = 0; z = a;",
			"k: E; m: bool when Q(e); n: bool when Q(e); x: int when Q(e) when false(m)", "k = e; m = c when Q(e); n = m; x = 0; z = a;"},
		{"z: int", "x: int when true(c); y: int when true(c)", "x = a when true(c); y = x; z = merge c (true -> y) (false -> 0);", "", "x = a when true(c); y = x; z = merge c (true -> x) (false -> 0);"},
	} {
		x.check(t, functions()[1])
	}
}

// TestCommon is P20.4.
func TestCommon(t *testing.T) {
	for _, x := range []example{
		{"y: int", "x: int", "x = a + 1; y = a + 1;", "", "x = a + 1; y = x;"},
		{"y: int", "x: int", "y = a + 1; x = a + 1;", "", "y = a + 1; x = y;"},
		{"y: int; z: int", "x: int", "x = a + 1; y = a + 1; z = a + 1;", "", "x = a + 1; y = x; z = x;"},
		{"y: int; z: int", "x: int", "x = a + 1; y = x + 1; z = (a + 1) + 1;", "", "x = a + 1; y = x + 1; z = (a + 1) + 1;"},
		{"y: int", "x: int", "x = a + 1; y = 1 + a;", "", "x = a + 1; y = 1 + a;"},
		{"y: int", "x: int", "x = a + 1; y = b + 1;", "", "x = a + 1; y = b + 1;"},
		{"y: int", "x: int", "x = a; y = a;", "", "x = a; y = a;"},
		{"y: int", "x: int", "x = 1; y = 1;", "", "x = 1; y = 1;"},
		{"y: int", "x: int", "x = 0 fby a; y = 0 fby a;", "", "x = 0 fby a; y = 0 fby a;"},
		{"y: int", "x: int", "x = g(a, c); y = g(a, c);", "", "x = g(a, c); y = g(a, c);"},
		{"y: bool", "x: bool", "x = '(10)'; y = '(10)';", "", "x = '(10)'; y = x;"},
		{"y: bool", "x: bool", "x = '(10)'; y = '(1010)';", "", "x = '(10)'; y = '(1010)';"},
		{"y: bool", "x: bool when true(c)", "x = '(10)'; y = '(10)';", "", "x = '(10)'; y = '(10)';"},
		{"y: int", "x: bool when true(c); z: bool when true(c)", "x = '(10)'; z = '(10)'; y = a;", "", "x = '(10)'; z = x; y = a;"},
		{"y: int", "x: int when true(c); z: int when true(c)", "x = a when true(c); z = a when true(c); y = b;", "", "x = a when true(c); z = x; y = b;"},
		{"y: int", "x: int when true(c); z: int when false(c)", "x = 1 + 2; z = 1 + 2; y = b;", "", "x = 1 + 2; z = 1 + 2; y = b;"},
		{"y: int", "x: int", "x = merge c (true -> a when true(c)) (false -> 0); y = merge c (true -> a when true(c)) (false -> 0);", "", "x = merge c (true -> a when true(c)) (false -> 0); y = x;"},
		{"y: int", "x: int", "x = if c then a else b; y = if c then a else b;", "", "x = if c then a else b; y = x;"},
	} {
		x.check(t, functions()[2])
	}
}

// TestDead is P20.5.
func TestDead(t *testing.T) {
	for _, x := range []example{
		{"y: int", "x: int", "x = a + 1; y = a;", "-", "y = a;"},
		{"y: int", "x: int; z: int", "z = x; x = a + 1; y = b;", "-", "y = b;"},
		{"y: int", "x: int; z: int; w: int", "z = 1; x = z + 1; w = z; y = x;", "x: int; z: int", "z = 1; x = z + 1; y = x;"},
		{"y: int", "x: int", "y = x; x = 0 fby x;", "", "y = x; x = 0 fby x;"},
		{"y: int", "x: int; z: int", "x = 0 fby z; z = 0 fby x; y = a;", "-", "y = a;"}, // a cycle of delays
		{"y: int; z: int", "", "y = 1; z = 2;", "", "y = 1; z = 2;"},
		{"y: int", "x: int; k: bool", "x = a + 1; k = not c; y = g(x, c) every k;", "", "x = a + 1; k = not c; y = g(x, c) every k;"},
		{"y: int", "x: int; q: bool", "(x, q) = h(a); y = x;", "", "(x, q) = h(a); y = x;"}, // q is defined by a needed equation
		{"y: int", "x: int; q: bool", "(x, q) = h(a); y = if q then 1 else 0;", "", "(x, q) = h(a); y = if q then 1 else 0;"},
		{"y: int", "x: int; q: bool", "(x, q) = h(a); y = b;", "-", "y = b;"},
		{"y: int", "x: bool", "x = '(10)'; y = b;", "-", "y = b;"},
		{"y: int", "k: bool; x: int when true(k); z: int when true(k)", "k = not c; x = 1; z = 2; y = merge k (true -> 3) (false -> 4);", "k: bool", "k = not c; y = merge k (true -> 3) (false -> 4);"},
		{"y: int", "k: bool; x: int when true(k)", "k = not c; x = 1; y = merge k (true -> x) (false -> 4);", "", "k = not c; x = 1; y = merge k (true -> x) (false -> 4);"},
		{"y: int", "k: bool; x: int when true(k); z: int when false(k)", "k = not c; x = 1; z = 2; y = a;", "-", "y = a;"},
		{"y: E", "x: E; z: E", "x = e; z = x; y = z;", "", "x = e; z = x; y = z;"},
	} {
		x.check(t, functions()[3])
	}
}

// TestDeadClocks is P20.5: the clock of a needed equation, and those of the locals that it defines, are needed, even if nothing else reads them.
func TestDeadClocks(t *testing.T) {
	def := func(name string, e api.Expr, ck ...api.On) api.NEq {
		return api.NEq{Kind: api.NDef, Left: []string{name}, Right: e, Clock: ck}
	}
	k, l := api.On{Name: "k", T: api.TBool, Tag: 1}, api.On{Name: "l", T: api.TBool}
	n := api.NNode{
		Name: "f", Out: []api.Decl{{Name: "y", Type: api.TInt}},
		Locals: []api.Decl{{Name: "k"}, {Name: "l"}, {Name: "x", Clock: []api.On{k, l}}, {Name: "z", Clock: []api.On{l}}, {Name: "unknown"}, {Name: "y", Clock: []api.On{k}}},
	}
	for _, c := range []struct {
		eqs    []api.NEq
		left   []int // the equations and the locals that are left
		locals []int
	}{
		{[]api.NEq{def("k", number(1)), def("l", number(1)), def("x", number(1)), def("y", number(2))}, []int{0, 3}, []int{0, 5}},
		{[]api.NEq{def("k", number(1)), def("l", number(1)), def("x", number(1)), def("y", v("x"))}, []int{0, 1, 2, 3}, []int{0, 1, 2, 5}},
		{[]api.NEq{def("k", number(1)), def("l", number(1)), def("z", number(1)), def("y", number(2), l)}, []int{0, 1, 3}, []int{0, 1, 5}},
		{[]api.NEq{{Kind: api.NCall, Left: []string{"y", "z"}}, def("l", v("x")), def("x", number(1)), def("k", number(1))}, []int{0, 1, 2, 3}, []int{0, 1, 2, 3, 5}},
		{[]api.NEq{def("y", number(1)), def("y", v("x")), def("x", v("y")), def("z", v("y")), def("x", number(1))}, []int{0, 1, 2, 4}, []int{2, 5}},
		{nil, nil, nil},
	} {
		n.Eqs = c.eqs
		want := api.NNode{Name: n.Name, Out: n.Out}
		for _, i := range c.left {
			want.Eqs = append(want.Eqs, n.Eqs[i])
		}
		for _, i := range c.locals {
			want.Locals = append(want.Locals, n.Locals[i])
		}
		if is := Dead(n); !sameNode(is, want) || !sameNode(refDead(n), want) {
			t.Errorf("Dead of %v is %v, want %v; the reference is %v", n, is, want, refDead(n))
		}
	}
}

// TestCycles is P20.2 and P20.3 for nodes that no program has: copies in a cycle, and variables that are defined several times.
func TestCycles(t *testing.T) {
	def := func(name string, e api.Expr) api.NEq {
		return api.NEq{Kind: api.NDef, Left: []string{name}, Right: e}
	}
	call := func(left ...string) api.NEq { return api.NEq{Kind: api.NCall, Left: left} }
	read := def("r", op(api.OpAdd, v("x"), op(api.OpMul, v("y"), v("z"))))
	result := func(x, y, z string) api.Expr { return op(api.OpAdd, v(x), op(api.OpMul, v(y), v(z))) }
	five := result("x", "y", "z")
	five.Args[0] = number(5)
	for i, c := range []struct {
		f    func(n api.NNode) api.NNode
		eqs  []api.NEq
		want api.Expr
	}{
		{Copies, []api.NEq{def("x", v("x"))}, result("x", "y", "z")},
		{Copies, []api.NEq{def("x", v("y")), def("y", v("x"))}, result("x", "y", "z")},
		{Copies, []api.NEq{def("x", v("y")), def("y", v("z")), def("z", v("y"))}, result("x", "y", "z")}, // x is in no cycle, but leads to one
		{Copies, []api.NEq{def("x", v("y")), def("y", v("z")), def("z", v("x"))}, result("x", "y", "z")},
		{Copies, []api.NEq{def("x", v("y")), def("y", v("z"))}, result("z", "z", "z")},
		{Copies, []api.NEq{def("x", v("y")), def("x", v("y"))}, result("x", "y", "z")},
		{Copies, []api.NEq{def("x", v("y")), call("z", "x")}, result("x", "y", "z")},
		{Copies, []api.NEq{call("z", "x"), def("x", v("y"))}, result("x", "y", "z")},
		{Copies, []api.NEq{def("x", v("y")), call("y", "y")}, result("y", "y", "z")},
		{Copies, []api.NEq{{Kind: api.NDef, Left: []string{"x", "w"}, Right: v("y")}}, result("x", "y", "z")},
		{Copies, []api.NEq{{Kind: api.NDelay, Left: []string{"x"}, Right: v("y")}}, result("x", "y", "z")},
		{Copies, []api.NEq{def("x", v(""))}, result("", "y", "z")},
		{Consts, []api.NEq{def("x", number(5))}, five},
		{Consts, []api.NEq{def("x", number(5)), def("x", number(5))}, result("x", "y", "z")},
		{Consts, []api.NEq{def("x", number(5)), call("z", "x")}, result("x", "y", "z")},
		{Consts, []api.NEq{call("x"), def("x", number(5))}, result("x", "y", "z")},
		{Consts, []api.NEq{{Kind: api.NDef, Left: []string{"x", "x"}, Right: number(5)}}, result("x", "y", "z")},
		{Consts, []api.NEq{{Kind: api.NDef, Left: []string{"x", "w"}, Right: number(5)}}, result("x", "y", "z")},
		{Consts, []api.NEq{{Kind: api.NWord, Left: []string{"x"}, Right: number(5)}}, result("x", "y", "z")},
		{Consts, []api.NEq{{Kind: api.NDelay, Left: []string{"x"}, Right: number(5), Init: 4}}, result("x", "y", "z")},
		{Consts, []api.NEq{{Kind: api.NDelay, Left: []string{"x"}, Right: number(5), Init: 5}}, five},
		{Consts, []api.NEq{{Kind: api.NDef, Right: number(5)}}, result("x", "y", "z")},
	} {
		n := api.NNode{Eqs: append(c.eqs, read)}
		is := c.f(n)
		want := deepCopy(n)
		want.Eqs[len(c.eqs)].Right = c.want
		if last := is.Eqs[len(c.eqs)]; !sameNode(api.NNode{Eqs: []api.NEq{last}}, api.NNode{Eqs: want.Eqs[len(c.eqs):]}) {
			t.Errorf("%d: the equation is %v, want %v", i, last.Right, c.want)
		}
	}
	same := []api.NEq{{Kind: api.NDef, Left: []string{"x"}, Right: v("y"), Every: ""}, {Kind: api.NDef, Left: []string{""}, Right: v("y")}}
	if is := Copies(api.NNode{Eqs: same}); is.Eqs[0].Every != "" {
		t.Errorf("an empty reset condition became %q", is.Eqs[0].Every)
	}
	loop := def("x", with(api.EConst, v("x"), v("y")))
	if is := Consts(api.NNode{Eqs: []api.NEq{loop, def("y", v("x"))}}); len(is.Eqs) != 2 || is.Eqs[1].Right.Kind != api.EConst {
		t.Errorf("a constant that contains itself: %v", is)
	}
}

// TestCommonKinds is P20.4 for nodes that no program has.
func TestCommonKinds(t *testing.T) {
	sum := op(api.OpAdd, v("a"), number(1))
	ck := []api.On{{Name: "c", T: api.TBool}}
	base := api.NEq{Kind: api.NDef, Left: []string{"x"}, Right: sum, Node: "n", Clock: ck}
	change := func(q api.NEq, f func(q *api.NEq)) api.NEq {
		q = deepCopy(q)
		f(&q)
		return q
	}
	second := change(base, func(q *api.NEq) { q.Left[0], q.Init, q.Every, q.Args = "y", 3, "e", []api.Expr{sum} })
	became := api.NEq{Kind: api.NDef, Left: []string{"y"}, Right: v("x"), Clock: ck}
	for i, c := range []struct {
		first, second api.NEq
		shared        bool
	}{
		{base, second, true},
		{change(base, func(q *api.NEq) { q.Init, q.Every, q.Args = 9, "f", nil }), second, true},
		{change(base, func(q *api.NEq) { q.Left = []string{"x", "z"} }), second, false},
		{change(base, func(q *api.NEq) { q.Left = nil }), second, false},
		{base, change(second, func(q *api.NEq) { q.Left = []string{"y", "z"} }), false},
		{base, change(second, func(q *api.NEq) { q.Left = nil }), false},
		{change(base, func(q *api.NEq) { q.Kind = api.NWord }), second, false},
		{change(base, func(q *api.NEq) { q.Kind = api.NWord }), change(second, func(q *api.NEq) { q.Kind = api.NWord }), true},
		{change(base, func(q *api.NEq) { q.Kind = api.NDelay }), change(second, func(q *api.NEq) { q.Kind = api.NDelay }), false},
		{change(base, func(q *api.NEq) { q.Kind = api.NCall }), change(second, func(q *api.NEq) { q.Kind = api.NCall }), false},
		{change(base, func(q *api.NEq) { q.Kind = 0 }), change(second, func(q *api.NEq) { q.Kind = 0 }), false},
		{change(base, func(q *api.NEq) { q.Node = "m" }), second, false},
		{change(base, func(q *api.NEq) { q.Right.Args[0].Name = "b" }), second, false},
		{change(base, func(q *api.NEq) { q.Clock[0].Tag = 1 }), second, false},
		{change(base, func(q *api.NEq) { q.Clock = nil }), second, false},
		{change(base, func(q *api.NEq) { q.Right = v("a") }), change(second, func(q *api.NEq) { q.Right = v("a") }), false},
		{change(base, func(q *api.NEq) { q.Right = number(1) }), change(second, func(q *api.NEq) { q.Right = number(1) }), false},
		{change(base, func(q *api.NEq) { q.Right = api.Expr{} }), change(second, func(q *api.NEq) { q.Right = api.Expr{} }), true},
		{change(base, func(q *api.NEq) { q.Kind, q.Right = api.NWord, v("a") }), change(second, func(q *api.NEq) { q.Kind, q.Right = api.NWord, v("a") }), true},
	} {
		n := api.NNode{Eqs: []api.NEq{c.first, c.second}}
		want := api.NNode{Eqs: []api.NEq{c.first, became}}
		if !c.shared {
			want = n
		}
		if is := Common(n); !sameNode(is, want) || !sameNode(refCommon(n), want) {
			t.Errorf("%d: Common is %v, want %v; the reference is %v", i, is.Eqs, want.Eqs, refCommon(n).Eqs)
		}
	}
}
