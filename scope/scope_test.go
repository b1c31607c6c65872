package scope

import (
	"math"
	"math/rand"
	"reflect"
	"slices"
	"strconv"
	"testing"

	"synchrony/api"
)

// count is the program of the document's first example.
const count = "node count(r: bool) returns (n: int) let n = if r then 0 else (0 fby n) + 1; tel"

func state(name string, locals []api.Decl, eqs []api.Eq, autos ...api.Auto) api.State {
	return api.State{Name: name, Locals: locals, Eqs: eqs, Autos: autos}
}

func auto(states ...api.State) api.Auto { return api.Auto{States: states} }

// TestVars is P10.2.
func TestVars(t *testing.T) {
	n := api.Node{In: decls("a", "b"), Out: decls("x", "a"), Locals: decls("m", "x", "")}
	n.Locals[0].Clock = []api.On{{Name: "a", T: api.TBool, Tag: 1}, {Name: "b", T: 7, Tag: -1}}
	n.In[1].Clock = []api.On{{Name: "c"}}
	before := deepCopy(n)
	want := slices.Concat(before.In, before.Out, before.Locals)
	for range 2 {
		l := Vars(n)
		if !reflect.DeepEqual(l, want) {
			t.Fatalf("Vars = %v, want %v", l, want)
		}
		for i := range l {
			for k := range l[i].Clock {
				l[i].Clock[k] = api.On{Name: "spoilt"}
			}
			l[i].Name, l[i].Type = "spoilt", 99
		}
		if !reflect.DeepEqual(n, before) {
			t.Fatalf("Vars shares memory with the node")
		}
	}
	if l := Vars(api.Node{Locals: []api.Decl{}}); len(l) != 0 {
		t.Errorf("Vars of nothing = %v", l)
	}
	n = read(t, count).Nodes[0]
	if l := Vars(n); !reflect.DeepEqual(l, []api.Decl{{Name: "r", Type: api.TBool}, {Name: "n", Type: api.TInt}}) {
		t.Errorf("Vars of count = %v", l)
	}
}

// TestVarsOfOneList: the lists of declarations are not extended in their own memory.
func TestVarsOfOneList(t *testing.T) {
	l := decls("a", "b", "c")
	for _, n := range []api.Node{{In: l[:1], Out: l[1:2]}, {Out: l[:1], Locals: l[2:]}, {Locals: l[:2]}} {
		Vars(n)[0].Name = "spoilt"
		if !reflect.DeepEqual(l, decls("a", "b", "c")) {
			t.Errorf("the declarations became %v", l)
		}
	}
}

func expectDefined(t *testing.T, what string, n api.Node, want ...string) {
	t.Helper()
	if l := Defined(n); !slices.Equal(l, want) {
		t.Errorf("%s: Defined = %v, want %v", what, l, want)
	}
}

// TestDefined is P10.2.
func TestDefined(t *testing.T) {
	none := auto()
	expectDefined(t, "nothing", api.Node{In: decls("a"), Out: decls("x"), Locals: decls("m")})
	expectDefined(t, "count", read(t, count).Nodes[0], "n")
	expectDefined(t, "the full program", full(t).Nodes[3], "x", "m", "n", "Mode", "u", "w", "two", "z")
	expectDefined(t, "names on the left", api.Node{Eqs: []api.Eq{eq(number(0), "b", "a", "b"), {}, eq(number(0), "a"), eq(number(0), "c", "")}}, "b", "a", "c", "")
	expectDefined(t, "an automaton without states", api.Node{Eqs: eqs("a"), Autos: []api.Auto{none, auto(state("S", nil, eqs("b", "a"), none))}}, "a", "b")
	expectDefined(t, "the first states", api.Node{Autos: []api.Auto{auto(state("S", nil, eqs("b")), state("T", nil, eqs("c"))), auto(state("S", nil, nil), state("T", nil, eqs("d")))}}, "b")
	expectDefined(t, "equations before automata", api.Node{Eqs: eqs("d", "e"), Autos: []api.Auto{auto(state("S", nil, eqs("b", "e"), auto(state("S", nil, eqs("c"))), auto(state("S", nil, eqs("b", "a"))))), auto(state("S", nil, eqs("c", "f")))}}, "d", "e", "b", "c", "a", "f")
	expectDefined(t, "locals", api.Node{Locals: decls("k"), Eqs: eqs("k"), Autos: []api.Auto{auto(state("S", decls("b", "k"), eqs("b", "c"), auto(state("S", decls("d"), eqs("d", "b", "e"))))), auto(state("S", nil, eqs("d", "b")))}}, "k", "c", "e", "d", "b")
	expectDefined(t, "a local of both an inner and an outer state", api.Node{Autos: []api.Auto{auto(state("S", decls("b"), nil, auto(state("S", decls("b", "b"), eqs("b"))), auto(state("S", nil, eqs("b", "c")))))}}, "c")
	expectDefined(t, "a local of another state", api.Node{Autos: []api.Auto{auto(state("S", nil, eqs("b")), state("T", decls("b"), eqs("b")))}}, "b")
	expectDefined(t, "inputs", api.Node{In: decls("a"), Eqs: eqs("a")}, "a")
}

// anyNode returns a node whose parts have any names, and may have no elements.
func anyNode(r *rand.Rand) api.Node {
	some := func() []string {
		var l []string
		for range r.Intn(4) {
			l = append(l, "v"+strconv.Itoa(r.Intn(6)))
		}
		return l
	}
	var body func(depth int) ([]api.Eq, []api.Auto)
	body = func(depth int) ([]api.Eq, []api.Auto) {
		e := []api.Eq{{Left: some()}, {Left: some()}}[:r.Intn(3)]
		var autos []api.Auto
		for depth > 0 && r.Intn(3) > 0 {
			var a api.Auto
			for range r.Intn(3) {
				x, y := body(depth - 1)
				a.States = append(a.States, state("S", decls(some()...), x, y...))
			}
			autos = append(autos, a)
		}
		return e, autos
	}
	n := api.Node{Locals: decls(some()...)}
	n.Eqs, n.Autos = body(4)
	return n
}

// TestDefinedOfAny is P10.2.
func TestDefinedOfAny(t *testing.T) {
	r := rand.New(rand.NewSource(2))
	for range 2000 {
		n := anyNode(r)
		before := deepCopy(n)
		expectDefined(t, "some node", n, ofBody(n.Eqs, n.Autos)...)
		if !reflect.DeepEqual(n, before) {
			t.Fatal("the node became another one")
		}
	}
}

func expectCalls(t *testing.T, p api.Program, node int, want ...int) {
	t.Helper()
	if l := Calls(p, node); !slices.Equal(l, want) {
		t.Errorf("Calls of %d = %v, want %v", node, l, want)
	}
}

// TestCalls is P10.3.
func TestCalls(t *testing.T) {
	p := full(t)
	for i, want := range [][]int{nil, nil, nil, {0, 1, 2}, nil} {
		expectCalls(t, p, i, want...)
	}
	for _, i := range []int{-1, 5, math.MinInt, math.MaxInt} {
		expectCalls(t, p, i)
	}
	expectCalls(t, api.Program{}, 0)
	expectCalls(t, read(t, count), 0)
}

// placesOfExprs returns the places of a node in which an expression can be, with what must be called.
func placesOfExprs(e func(name string) api.Expr) []api.Node {
	in := func(s api.State) api.Node { return api.Node{Autos: []api.Auto{auto(state("S", nil, nil), s)}} }
	var l []api.Node
	for i, f := range []func(x api.Expr) api.Node{
		func(x api.Expr) api.Node { return api.Node{Eqs: []api.Eq{eq(number(0), "a"), eq(x, "x")}} },
		func(x api.Expr) api.Node { return api.Node{Assume: []api.Expr{number(0), x}} },
		func(x api.Expr) api.Node { return api.Node{Ensure: []api.Expr{number(0), x}} },
		func(x api.Expr) api.Node { return in(state("T", nil, []api.Eq{eq(x, "x")})) },
		func(x api.Expr) api.Node { return in(api.State{Unless: []api.Trans{{}, {Cond: x}}}) },
		func(x api.Expr) api.Node { return in(api.State{Until: []api.Trans{{}, {Cond: x}}}) },
		func(x api.Expr) api.Node {
			return in(state("T", nil, nil, auto(), auto(state("U", nil, nil), api.State{Until: []api.Trans{{Cond: x}}})))
		},
		func(x api.Expr) api.Node {
			return in(state("T", nil, nil, auto(state("U", nil, []api.Eq{eq(with(api.EPre, with(77, number(0), x)), "x")}))))
		},
	} {
		l = append(l, f(e("n"+strconv.Itoa(i))))
	}
	return l
}

// TestCallsInPlaces: a call in each part of a node counts.
func TestCallsInPlaces(t *testing.T) {
	places := placesOfExprs(func(name string) api.Expr { return call(name) })
	var p api.Program
	for i := range places {
		p.Nodes = append(p.Nodes, api.Node{Name: "n" + strconv.Itoa(i)})
	}
	p.Nodes = append(p.Nodes, places...)
	for i := range places {
		expectCalls(t, p, i)
		expectCalls(t, p, len(places)+i, i)
	}
}

// TestCallsOfAny: the first node with a name is called, also if it is a later one, or the calling one; only calls count.
func TestCallsOfAny(t *testing.T) {
	p := api.Program{Nodes: []api.Node{
		{Name: "f", Eqs: []api.Eq{eq(call("g", call("h"), call("f"), call("g")), "x")}},
		{Name: "g", Eqs: []api.Eq{eq(variable("f"), "f"), eq(api.Expr{Kind: api.EMerge, Name: "f", Args: []api.Expr{{Kind: api.EState, Name: "h"}}}, "x")}},
		{Name: "f", Eqs: []api.Eq{eq(call("none"), "x"), eq(call("h", call("f")), "x")}, In: decls("g")},
		{Name: "h", Assume: []api.Expr{call("f"), call("f")}, Ensure: []api.Expr{call(""), call("F")}},
		{Name: "g", Eqs: []api.Eq{eq(with(api.EConst, call("h"), call("g")), "x")}},
	}}
	before := deepCopy(p)
	for i, want := range [][]int{{0, 1, 3}, nil, {0, 3}, {0}, {1, 3}} {
		expectCalls(t, p, i, want...)
	}
	if !reflect.DeepEqual(p, before) {
		t.Error("the program became another one")
	}
}

// TestCallsOfRight compares Calls with all occurrences of calls.
func TestCallsOfRight(t *testing.T) {
	rightPrograms(t, 300, func(p api.Program) {
		for i := range p.Nodes {
			var want []int
			q := api.Program{Nodes: p.Nodes[i : i+1]}
			for _, e := range partsOf[api.Expr](&q) {
				if e.Kind == api.ECall {
					want = append(want, slices.IndexFunc(p.Nodes, func(n api.Node) bool { return n.Name == e.Name }))
				}
			}
			slices.Sort(want)
			expectCalls(t, p, i, slices.Compact(want)...)
		}
	})
}

func expectFresh(t *testing.T, what string, p api.Program, base, want string) {
	t.Helper()
	if s := Fresh(p, base); s != want {
		t.Errorf("%s: Fresh of %q = %q, want %q", what, base, s, want)
	}
}

// The tests of Fresh are P10.4.

func TestFreshExamples(t *testing.T) {
	p := read(t, "node f(x_1: int) returns (y: int) let y = x_1; tel")
	expectFresh(t, "the example", p, "x", "x_2")
	expectFresh(t, "another base", p, "y", "y_1")
	expectFresh(t, "a longer base", p, "x_1", "x_1_1")
	expectFresh(t, "no base", p, "", "_1")
	expectFresh(t, "nothing", api.Program{}, "x", "x_1")
	expectFresh(t, "the full program", full(t), "main", "main_1")
}

func TestFreshNumbers(t *testing.T) {
	p := api.Program{Nodes: []api.Node{{In: decls("x_2", "x_0", "x_01", "x_4", "xx_1", "X_1", "x_1x", "x__1", "_1", "x1", "ax_1", "x_")}}}
	expectFresh(t, "not 1", p, "x", "x_1")
	p.Nodes[0].In = append(p.Nodes[0].In, decls("x_1")...)
	expectFresh(t, "not 3", p, "x", "x_3")
	p.Nodes[0].Out = decls("x_3", "x_6")
	expectFresh(t, "not 5", p, "x", "x_5")
	for i := range 1200 {
		p.Nodes[0].Locals = append(p.Nodes[0].Locals, decls("x_"+strconv.Itoa(1200-i))...)
	}
	expectFresh(t, "many", p, "x", "x_1201")
}

// TestFreshPlaces: a name in each part of a program counts.
func TestFreshPlaces(t *testing.T) {
	nodes := placesOfExprs(func(name string) api.Expr { return call("v_1") })
	nodes = append(nodes, placesOfExprs(func(name string) api.Expr {
		return api.Expr{Kind: api.EMerge, Name: "c", Args: []api.Expr{number(0), with(api.EOp, variable("v_1"))}}
	})...)
	clocked := decls("a", "b")
	clocked[1].Clock = []api.On{{Name: "a"}, {Name: "v_1"}}
	for _, l := range [][]api.Decl{decls("a", "v_1"), clocked} {
		s := state("S", l, nil)
		nodes = append(nodes, api.Node{In: l}, api.Node{Out: l}, api.Node{Locals: l}, api.Node{Autos: []api.Auto{auto(s)}}, api.Node{Autos: []api.Auto{auto(), auto(state("S", nil, nil), state("T", nil, nil, auto(s)))}})
	}
	left := []api.Eq{eq(number(0), "a"), eq(number(0), "a", "v_1")}
	nodes = append(nodes, api.Node{Name: "v_1"}, api.Node{Eqs: left}, api.Node{Autos: []api.Auto{auto(state("S", nil, left))}},
		api.Node{Autos: []api.Auto{auto(state("v_1", nil, nil))}}, api.Node{Autos: []api.Auto{auto(state("S", nil, nil, auto(state("v_1", nil, left))))}})
	for i, n := range nodes {
		expectFresh(t, "the node "+strconv.Itoa(i), api.Program{Nodes: []api.Node{{}, n}}, "v", "v_2")
	}
	for _, x := range []api.Enum{{Name: "v_1"}, {Name: "a", Tags: []string{"b", "v_1"}}} {
		expectFresh(t, "an enumeration", api.Program{Enums: []api.Enum{{}, x}}, "v", "v_2")
	}
}

// TestFreshKinds: of which expressions the Name counts.
func TestFreshKinds(t *testing.T) {
	none := []int{api.EConst, api.EOp, api.EIf, api.EPre, api.EArrow, api.EFby, api.EWord}
	for kind := -2; kind < 20; kind++ {
		for _, name := range []string{"v_1", "v_2", ""} {
			want := "v_1"
			if name == "v_1" && !slices.Contains(none, kind) {
				want = "v_2"
			}
			e := api.Expr{Kind: kind, Name: name, Args: []api.Expr{number(1)}}
			expectFresh(t, "the kind "+strconv.Itoa(kind), api.Program{Nodes: []api.Node{{Eqs: []api.Eq{eq(e, "x")}}}}, "v", want)
			expectFresh(t, "inside, the kind "+strconv.Itoa(kind), api.Program{Nodes: []api.Node{{Eqs: []api.Eq{eq(with(api.EPre, number(1), e), "x")}}}}, "v", want)
		}
	}
}

// TestFreshOfRight compares Fresh with all texts of a program, and is P10.5 for different bases.
func TestFreshOfRight(t *testing.T) {
	rightPrograms(t, 300, func(p api.Program) {
		for range 3 {
			p.Nodes[0].Locals = append(p.Nodes[0].Locals, decls(Fresh(p, "v"))...)
			texts := partsOf[string](&p)
			for _, base := range []string{"v", "T0", "w", "v_1"} {
				n := 1
				for slices.ContainsFunc(texts, func(s *string) bool { return *s == base+"_"+strconv.Itoa(n) }) {
					n++
				}
				expectFresh(t, "some program", p, base, base+"_"+strconv.Itoa(n))
			}
		}
		before := deepCopy(p)
		seen := map[string]bool{}
		for _, base := range []string{"v", "v1", "v11", "vv", "w", "V", ""} {
			s := Fresh(p, base)
			if seen[s] {
				t.Errorf("%s is fresh for two bases", s)
			}
			seen[s] = true
		}
		if !reflect.DeepEqual(p, before) {
			t.Error("the program became another one")
		}
	})
}

// TestDeepNodes has as many nested parts as the document permits.
func TestDeepNodes(t *testing.T) {
	const n = 1 << 15
	e := call("f", variable("v_1"))
	for range n {
		e = with(api.EPre, e)
	}
	s := state("S", decls("k"), []api.Eq{eq(e, "k", "inner", "b")})
	for i := range n {
		l := []api.Decl(nil)
		if i == n-1 {
			l = decls("b")
		}
		s = state("S", l, eqs("a"+strconv.Itoa(i)), auto(s))
	}
	node := api.Node{Name: "f", Out: decls("x"), Autos: []api.Auto{auto(s)}}
	p := api.Program{Nodes: []api.Node{node}}
	if l := Defined(node); len(l) != n+1 || l[0] != "a32767" || l[n] != "inner" {
		t.Errorf("Defined has %d names", len(l))
	}
	expectCalls(t, p, 0, 0)
	expectFresh(t, "a deep node", p, "v", "v_2")
	expectCheck(t, "a deep node", p, api.Where{Node: 0, Eq: -1}, api.ErrLimit)
}
