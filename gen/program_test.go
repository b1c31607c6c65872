package gen

import (
	"math/rand"
	"reflect"
	"slices"
	"strconv"
	"strings"
	"testing"

	"synchrony/api"
	"synchrony/fuse"
	"synchrony/norm"
	"synchrony/obj"
	"synchrony/parse"
	"synchrony/samples"
	"synchrony/sched"
	"synchrony/sim"
	"synchrony/simp"
)

// read returns the program with this text.
func read(t *testing.T, s string) api.Program {
	t.Helper()
	p, at, e := parse.Program(s)
	if e != api.OK {
		t.Fatalf("%.60q.. is refused at %d (%.20q) with the error %d", s, at, s[at:], int(e))
	}
	return p
}

// must returns what a step of the compilation returns, which has no error.
func must[A, B any](t *testing.T, step func(x A) (B, api.Errno), x A) B {
	t.Helper()
	y, e := step(x)
	if e != api.OK {
		t.Fatalf("the error %d for %v", int(e), x)
	}
	return y
}

// wideEnough returns the list, each case in which has as many branches as its type has values.
func wideEnough(l []api.Stmt, enums []api.Enum) []api.Stmt {
	l = slices.Clone(l)
	for i, s := range l {
		if s.Kind != api.SCase {
			continue
		}
		count := 2
		if s.T != api.TBool {
			count = len(enums[s.T-api.TEnum].Tags)
		}
		l[i].Branches = nil
		for k := range count {
			var branch []api.Stmt
			if k < len(s.Branches) {
				branch = wideEnough(s.Branches[k], enums)
			}
			l[i].Branches = append(l[i].Branches, branch)
		}
	}
	return l
}

func kindsOf(eqs []api.NEq, kinds ...int) int {
	n := 0
	for _, x := range eqs {
		if slices.Contains(kinds, x.Kind) {
			n++
		}
	}
	return n
}

// expectObjects checks the object code of a scheduled program, apart from what it does.
func expectObjects(t *testing.T, n api.NProgram, o api.Objects) {
	t.Helper()
	if e := obj.Check(o); e != api.OK {
		t.Errorf("Check of the object code returns %d", int(e))
	}
	if len(o.Classes) != len(n.Nodes) || !obj.Same(api.Objects{Enums: n.Enums}, api.Objects{Enums: o.Enums}) {
		t.Fatalf("there are %d classes for %d nodes, and the enumerations %v", len(o.Classes), len(n.Nodes), o.Enums)
	}
	for i, x := range n.Nodes {
		want, e := refClass(x)
		want.Step = wideEnough(want.Step, n.Enums)
		if c := o.Classes[i]; e != api.OK || !sameClass(c, want) {
			t.Errorf("the class of\n%v is\n%v, want\n%v; the error is %d", x, c, want, int(e))
		}
		if c := o.Classes[i]; len(c.Mems) != kindsOf(x.Eqs, api.NDelay, api.NWord) || len(c.Insts) != kindsOf(x.Eqs, api.NCall) {
			t.Errorf("the memories of\n%v are %v, the instances %v", x, c.Mems, c.Insts)
		}
	}
}

// expectOutputs checks that a class has the outputs of the interpreter for the node.
func expectOutputs(t *testing.T, what string, r *rand.Rand, p api.Program, node api.Node, o api.Objects) {
	t.Helper()
	s, e := sim.New(p, node.Name)
	x, f := obj.New(o, node.Name)
	if e != api.OK || f != api.OK {
		t.Fatalf("%s: %s: New returns the errors %d and %d", what, node.Name, int(e), int(f))
	}
	for _, row := range samples.Rows(r.Intn, p.Enums, node.In, 16) {
		cells, _ := s.Step(row)
		var want []int
		for _, c := range cells {
			if c.Kind != api.Present {
				t.Fatalf("%s: %s: the interpreter returns %v", what, node.Name, cells)
			}
			want = append(want, c.V)
		}
		if out, e := x.Step(row); e != api.OK || !slices.Equal(out, want) {
			t.Fatalf("%s: %s: at %d the outputs are %v, want %v; the error is %d", what, node.Name, s.Time(), out, want, int(e))
		}
	}
}

// compile checks the object code of a program in normal form with the outputs of the nodes of p, for each choice of the steps that can be left out.
func compile(t *testing.T, r *rand.Rand, p api.Program, n api.NProgram) {
	t.Helper()
	for _, simplified := range []bool{false, true} {
		what := "not simplified"
		if simplified {
			n, what = must(t, simp.Program, n), "simplified"
		}
		s := must(t, sched.Program, n)
		before := deepCopy(s)
		o := must(t, Program, s)
		if !reflect.DeepEqual(deepCopy(s), before) {
			t.Errorf("the argument has changed")
		}
		expectNewMemory(t, s, o)
		expectObjects(t, s, o)
		fused := must(t, fuse.Program, o)
		back := norm.Back(s)
		for _, node := range p.Nodes {
			expectOutputs(t, what, r, p, node, o)
			expectOutputs(t, what+", fused", r, p, node, fused)
			expectOutputs(t, what+", against the scheduled program", r, back, node, o)
		}
	}
}

// TestTexts is P23.2, P23.3, G4 (scheduling keeps the outputs) and G5, for programs with automata, too.
func TestTexts(t *testing.T) {
	r := rand.New(rand.NewSource(2))
	for _, s := range samples.Texts() {
		p := read(t, s)
		n := must(t, norm.Program, p)
		for range 6 {
			compile(t, r, p, n)
			for _, x := range n.Nodes {
				r.Shuffle(len(x.Eqs), func(i, k int) { x.Eqs[i], x.Eqs[k] = x.Eqs[k], x.Eqs[i] })
			}
		}
	}
}

// TestRandom is P23.2, P23.3, G4 and G5 for random programs in normal form.
func TestRandom(t *testing.T) {
	r := rand.New(rand.NewSource(3))
	for range 200 {
		n := samples.Program(r.Intn)
		compile(t, r, norm.Back(n), n)
		if t.Failed() {
			return
		}
	}
}

// TestWidth is P23.2: as many branches as a type has values.
func TestWidth(t *testing.T) {
	s := "type E = P | Q | R | S; type F = T; node g(a: int) returns (o: int) let o = a -> pre o; tel " +
		"node f(e: E; k: F; c: bool; a: int) returns (x: int; y: int) var p: int when Q(e); q: int when T(k); u: bool when P(e); w: int when P(e) when true(u); let " +
		"p = a when Q(e); q = g(a when T(k)) every (c when T(k)); x = merge k (T -> q); y = merge e (P -> 1) (Q -> p) (R -> 3) (S -> 4); u = c when P(e); w = 0 fby w + 1; tel"
	o := must(t, Program, must(t, sched.Program, must(t, norm.Program, read(t, s))))
	widths := map[string]int{"e": 4, "k": 1}
	cases := map[string]int{}
	var check func(l []api.Stmt)
	check = func(l []api.Stmt) {
		for _, s := range l {
			if s.Kind != api.SCase {
				continue
			}
			cases[s.Name]++
			if want := max(widths[s.Name], 2); len(s.Branches) != want && (s.Name != "k" || len(s.Branches) != 1) {
				t.Errorf("a case by %s has %d branches", s.Name, len(s.Branches))
			}
			for _, branch := range s.Branches {
				check(branch)
			}
		}
	}
	check(o.Classes[1].Step)
	if cases["e"] < 5 || cases["k"] < 3 || cases["u"] < 2 {
		t.Errorf("the cases are %v", cases)
	}
}

// TestProgramErrors is P23.2: the errors of norm.Check, and of equations that are not scheduled.
func TestProgramErrors(t *testing.T) {
	g := api.NNode{Name: "g", Out: decls("x:i y:i"), Eqs: []api.NEq{def("x", number(1)), def("y", v("x"))}}
	with := func(change func(n *api.NNode)) api.NProgram {
		n := deepCopy(g)
		n.Name = "f"
		change(&n)
		return api.NProgram{Nodes: []api.NNode{g, n}}
	}
	late := func(n *api.NNode) { slices.Reverse(n.Eqs) }
	for i, x := range []struct {
		n api.NProgram
		e api.Errno
	}{
		{api.NProgram{}, api.OK},
		{api.NProgram{Enums: samples.Enums()}, api.OK},
		{with(func(n *api.NNode) {}), api.OK},
		{with(late), api.ErrOrder},
		{api.NProgram{Nodes: []api.NNode{with(late).Nodes[1], g}}, api.ErrOrder},
		{with(func(n *api.NNode) { n.Eqs[0].Kind = 0 }), api.ErrForm},
		{with(func(n *api.NNode) { n.Eqs[0].Right = v("y") }), api.ErrCycle},
		{with(func(n *api.NNode) { n.Eqs[0].Right = truth(true) }), api.ErrType},
		{with(func(n *api.NNode) { n.Eqs[0].Right = v("z") }), api.ErrName},
		{with(func(n *api.NNode) { n.Eqs[0].Clock = []api.On{on("y", api.TBool, 1)} }), api.ErrClock},
		{with(func(n *api.NNode) { n.Eqs[0].Clock = []api.On{on("y", api.TBool, 5)} }), api.ErrClock},
		{with(func(n *api.NNode) { n.Eqs[0] = word("x", "(") }), api.ErrForm},
		{with(func(n *api.NNode) { n.Name = "g" }), api.ErrTwice},
		{with(func(n *api.NNode) { n.Eqs = n.Eqs[1:] }), api.ErrNone},
		{with(func(n *api.NNode) { late(n); n.Eqs[0].Right = truth(true) }), api.ErrType},
	} {
		if e := norm.Check(x.n); x.e != api.ErrOrder && e != x.e {
			t.Errorf("%d: norm.Check returns %d, want %d", i, int(e), int(x.e))
		}
		o, e := Program(x.n)
		if e != x.e || e != api.OK && !obj.Same(o, api.Objects{}) {
			t.Errorf("%d: the error is %d, want %d; the object code is %v", i, int(e), int(x.e), o)
		}
	}
}

// TestLargest is P23.2 and P23.3 for the greatest numbers of equations, tags, letters and samplings.
func TestLargest(t *testing.T) {
	r := rand.New(rand.NewSource(4))
	tags, letters := "T0", strings.Repeat("01", api.MaxWord/2-1)+"1"
	for i := 1; i < api.MaxTags; i++ {
		tags += " | T" + strconv.Itoa(i)
	}
	p := read(t, "type E = "+tags+"; node f(e: E; a: int) returns (x: int; y: bool) var c: bool when T1(e); d: bool when T1(e) when true(c); k: bool when T1(e) when true(c) when false(d); z: int when T1(e) when true(c) when false(d) when true(k); b: bool; "+
		"let x = a + (0 fby x); c = '"+letters+"(1)'; d = '(0"+letters+")'; k = '("+letters+")'; z = 1 fby z * 3; b = e = T15; y = '(0110"+letters[4:]+")' and b; tel")
	compile(t, r, p, must(t, norm.Program, p))
	n := api.NNode{Name: "f", In: decls("a:i"), Out: decls("x:i"), Eqs: []api.NEq{def("x", v("a"))}}
	for i := range api.MaxEqs - 1 {
		name := "m_" + strconv.Itoa(i)
		n.Locals = append(n.Locals, api.Decl{Name: name, Type: api.TInt})
		n.Eqs = append(n.Eqs, delay(name, i, n.Eqs[i].Right))
		n.Eqs[i+1].Right = v(name)
	}
	n.Eqs[0].Right = v("m_200")
	full := api.NProgram{Nodes: []api.NNode{n}}
	compile(t, r, norm.Back(full), full)
}

// TestNesting is the section Terms of DOC.md: parts that are nested deeply, and many of them.
func TestNesting(t *testing.T) {
	const depth = 1 << 16
	chain, sampled := v("a"), v("a")
	for range depth - 1 {
		chain = merge("c", api.TBool, chain, number(1))
		sampled = sum(when("c", sampled))
	}
	ck := slices.Repeat([]api.On{on("c", api.TBool, 1)}, depth)
	c := made(t, some(def("x", chain), def("p", sampled), def("y", v("c"), ck...)))
	for _, s := range []api.Stmt{c.Step[0], c.Step[2]} {
		nested := 0
		for s.Kind == api.SCase {
			nested++
			s = slices.Concat(s.Branches...)[0]
		}
		if nested < depth-1 {
			t.Errorf("%d cases are in one another", nested)
		}
	}
	var many api.NNode
	for i := range depth {
		many.In = append(many.In, api.Decl{Name: "m_" + strconv.Itoa(2*i+1)}, api.Decl{Name: "i_" + strconv.Itoa(i+1)})
		many.Eqs = append(many.Eqs, delay("", 0, number(1)), call("", "g", ""))
	}
	c = made(t, many)
	if c.Mems[depth-1].Name != "m_"+strconv.Itoa(2*depth) || c.Insts[depth-1].Name != "i_"+strconv.Itoa(2*depth) {
		t.Errorf("the last names are %s and %s", c.Mems[depth-1].Name, c.Insts[depth-1].Name)
	}
}
