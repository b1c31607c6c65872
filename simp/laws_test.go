package simp

import (
	"math/rand"
	"reflect"
	"slices"
	"strings"
	"testing"

	"synchrony/api"
	"synchrony/norm"
	"synchrony/parse"
	"synchrony/samples"
	"synchrony/sim"
)

// somePrograms calls f with programs in normal form, which are the same in each run.
func somePrograms(t *testing.T, seed int64, count int, f func(r *rand.Rand, n api.NProgram)) {
	t.Helper()
	r := rand.New(rand.NewSource(seed))
	for range count {
		n := samples.Program(r.Intn)
		if e := norm.Check(n); e != api.OK {
			t.Fatalf("the program is refused with the error %d:\n%s", int(e), program(n))
		}
		f(r, n)
		if t.Failed() {
			t.Fatal(program(n))
		}
	}
}

// compare checks that the nodes have the same outputs in both programs, and the variables that are left the same cells.
func compare(t *testing.T, what string, r *rand.Rand, n, changed api.NProgram) {
	t.Helper()
	p, q := norm.Back(n), norm.Back(changed)
	for i, x := range n.Nodes {
		a, e := sim.New(p, x.Name)
		b, f := sim.New(q, x.Name)
		if e != api.OK || f != api.OK {
			t.Fatalf("%s: New returns the errors %d and %d", what, int(e), int(f))
		}
		for _, row := range samples.Rows(r.Intn, n.Enums, x.In, 8) {
			want, _ := a.Step(row)
			if l, e := b.Step(row); e != api.OK || !slices.Equal(l, want) {
				t.Errorf("%s: at %d the outputs of %s are %v, want %v, the error is %d", what, a.Time(), x.Name, l, want, int(e))
			}
			for _, d := range changed.Nodes[i].Locals {
				want, _ := a.Look(d.Name)
				if c, ok := b.Look(d.Name); c != want || !ok {
					t.Errorf("%s: at %d %s of %s is %v, want %v", what, a.Time(), d.Name, x.Name, c, want)
				}
			}
		}
	}
}

// TestKept is P20.7 for Consts, Copies, Common and Dead: the results are accepted in the place of the nodes, and do the same.
func TestKept(t *testing.T) {
	changes := map[string]int{}
	somePrograms(t, 4, 400, func(r *rand.Rand, n api.NProgram) {
		for _, f := range functions() {
			changed := deepCopy(n)
			for i, x := range n.Nodes {
				changed.Nodes[i] = f.f(x)
				if !sameNode(changed.Nodes[i], f.ref(x)) {
					t.Errorf("%s of %s is %v, want %v", f.name, x.Name, changed.Nodes[i], f.ref(x))
				}
				if !sameNode(changed.Nodes[i], x) {
					changes[f.name]++
				}
				alone := deepCopy(n)
				alone.Nodes[i] = changed.Nodes[i]
				if e := norm.Check(alone); e != api.OK {
					t.Errorf("%s: with the new node %s Check returns %d", f.name, x.Name, int(e))
				}
			}
			if e := norm.Check(changed); e != api.OK {
				t.Fatalf("%s: Check returns %d\n%s", f.name, int(e), program(changed))
			}
			compare(t, f.name, r, n, changed)
		}
	})
	for _, f := range functions() {
		if changes[f.name] < 200 {
			t.Errorf("the changes are %v", changes)
		}
	}
}

// TestFoldKept is P20.7 for Fold, in all places of a program.
func TestFoldKept(t *testing.T) {
	somePrograms(t, 5, 500, func(r *rand.Rand, n api.NProgram) {
		changed := deepCopy(n)
		for i := range n.Nodes {
			for k := range n.Nodes[i].Eqs {
				for _, e := range places(&changed.Nodes[i].Eqs[k]) {
					*e = Fold(*e)
				}
			}
		}
		compare(t, "Fold", r, n, changed)
	})
}

// refProgram returns the simplified nodes, by the references.
func refProgram(n api.NProgram) api.NProgram {
	n = deepCopy(n)
	for i, x := range n.Nodes {
		for {
			next := refDead(refCommon(refCopies(refConsts(x))))
			if sameNode(next, x) {
				break
			}
			x = next
		}
		n.Nodes[i] = x
	}
	return n
}

// TestProgram is P20.6, P20.7 and G4.
func TestProgram(t *testing.T) {
	before, after := 0, 0
	somePrograms(t, 6, 700, func(r *rand.Rand, n api.NProgram) {
		copied := deepCopy(n)
		is, e := Program(n)
		if e != api.OK {
			t.Fatalf("Program returns the error %d", int(e))
		}
		if !norm.Same(is, refProgram(n)) {
			t.Errorf("the result is\n%s\nwant\n%s", program(is), program(refProgram(n)))
		}
		if !norm.Same(n, copied) {
			t.Error("Program changed its argument")
		}
		expectNewMemory(t, "Program", n, is)
		if e := norm.Check(is); e != api.OK {
			t.Errorf("Check of the result returns %d", int(e))
		}
		if again, e := Program(is); e != api.OK || !norm.Same(again, is) {
			t.Errorf("the result becomes\n%s", program(again))
		}
		compare(t, "Program", r, n, is)
		for i := range n.Nodes {
			before += len(n.Nodes[i].Eqs)
			after += len(is.Nodes[i].Eqs)
		}
	})
	if after*2 > before {
		t.Errorf("of %d equations there are still %d", before, after)
	}
}

// TestRounds is P20.6: what needs several rounds.
func TestRounds(t *testing.T) {
	for _, x := range []struct{ text, want string }{
		{"node f(a: int; b: int) returns (y: int) var x: bool; let x = true fby true; y = if x then a else b; tel", "let y = a; tel"},
		{"node f(a: int; c: bool) returns (y: int) var p: int; q: int; r: int; s: int; let p = a + 1; q = a + 1; r = p * 2; s = q * 2; y = if c then r else s; tel",
			"var p: int; r: int; let p = a + 1; r = p * 2; y = if c then r else r; tel"},
		{"node f(a: int; c: bool) returns (y: int) var p: bool; q: bool; r: bool; s: bool; let p = '(10)'; q = '(10)'; r = p and c; s = q and c; y = if r = s then 1 else 0; tel",
			"var p: bool; r: bool; let p = '(10)'; r = p and c; y = if r = r then 1 else 0; tel"},
		{"node f(a: int) returns (y: int) var k: bool; x: int when true(k); z: int; let k = true; x = z when true(k); z = 0 fby 0; y = merge k (true -> x) (false -> 1); tel",
			"var k: bool; let k = true; y = merge k (true -> 0) (false -> 1); tel"},
		{"node f(a: int) returns (y: int; z: int) let y = a - 1; z = a - 1; tel", "let y = a - 1; z = y; tel"},
		{"node f(a: int) returns (y: int) var p: int; let p = a; y = 0 fby p; tel", "let y = 0 fby a; tel"},
		{"node f() returns (y: int) let y = 1 fby y; tel", "let y = 1 fby y; tel"},
	} {
		n := api.NProgram{Nodes: []api.NNode{node(t, x.text)}}
		is, e := Program(n)
		if e != api.OK || text(nil, is.Nodes[0]) != x.want {
			t.Errorf("%s: the error %d, and\n%s\nwant\n%s", x.text, int(e), text(nil, is.Nodes[0]), x.want)
		}
	}
}

// TestErrors is P20.6: programs that are not in normal form.
func TestErrors(t *testing.T) {
	def := api.NEq{Kind: api.NDef, Left: []string{"x"}, Right: number(1)}
	right := api.NNode{Name: "f", Out: []api.Decl{{Name: "x", Type: api.TInt}}, Eqs: []api.NEq{def}}
	with := func(f func(n *api.NNode)) api.NProgram {
		n := deepCopy(right)
		n.Name = "g"
		f(&n)
		return api.NProgram{Nodes: []api.NNode{right, n}}
	}
	for i, n := range []api.NProgram{
		with(func(n *api.NNode) { n.Eqs[0].Right = v("y") }),
		with(func(n *api.NNode) { n.Eqs[0].Right = v("x") }),
		with(func(n *api.NNode) { n.Eqs[0].Right = constant(api.TBool, 1) }),
		with(func(n *api.NNode) { n.Eqs[0].Kind = 0 }),
		with(func(n *api.NNode) { n.Eqs[0].Init = 1 }),
		with(func(n *api.NNode) { n.Eqs[0].Clock = []api.On{{Name: "x", T: api.TBool}} }),
		with(func(n *api.NNode) { n.Eqs = nil }),
		with(func(n *api.NNode) { n.Name = "f" }),
		{Nodes: make([]api.NNode, 1)},
	} {
		if is, e := Program(n); e != api.ErrForm || !reflect.DeepEqual(is, api.NProgram{}) {
			t.Errorf("%d: Program returns the error %d and %d nodes", i, int(e), len(is.Nodes))
		}
	}
	for _, n := range []api.NProgram{{}, {Enums: enums()}, {Nodes: []api.NNode{right}}} {
		if is, e := Program(n); e != api.OK || !norm.Same(is, n) {
			t.Errorf("Program returns the error %d and %v", int(e), is)
		}
	}
}

// TestAutomata is G4: programs with automata do the same when they are simplified.
func TestAutomata(t *testing.T) {
	for _, s := range []string{
		"node f() returns (x: int) let automaton state A do x = 0 -> (pre x) + 1; until x >= 2 then B; done state B do x = 9; until true then A; done end tel",
		"node f(c: bool; a: int) returns (x: int; y: int) var z: int; let z = 0 -> pre z + a * 1; automaton state A unless c continue B; do x = z; automaton state C do y = 1 fby y + a; until a > 1 then D; done state D do y = 0 -> pre a; until y < a continue C; done end done " +
			"state B var l: int; do l = a -> pre x - 1; x = l * 2; y = if c then x + 0 else 0; until a = 3 then A; done end tel",
	} {
		p, _, _ := parse.Program(s)
		n, e := norm.Program(p)
		if e != api.OK {
			t.Fatalf("%s: norm.Program returns the error %d", s, int(e))
		}
		is, e := Program(n)
		rows := samples.Rows(rand.New(rand.NewSource(7)).Intn, p.Enums, p.Nodes[0].In, 60)
		want, _ := sim.Run(p, "f", rows)
		if l, f := sim.Run(norm.Back(is), "f", rows); e != api.OK || f != api.OK || !reflect.DeepEqual(l, want) {
			t.Errorf("%s: the errors %d and %d; the outputs are %v, want %v", s, int(e), int(f), l, want)
		}
		if strings.Count(program(is), ";") >= strings.Count(program(n), ";") {
			t.Errorf("%s: nothing is simplified", s)
		}
	}
}
