package emit

import (
	"math/rand"
	"slices"
	"testing"

	"synchrony/api"
	"synchrony/asm"
	"synchrony/cpu"
	"synchrony/fuse"
	"synchrony/gen"
	"synchrony/norm"
	"synchrony/obj"
	"synchrony/parse"
	"synchrony/samples"
	"synchrony/sched"
	"synchrony/share"
	"synchrony/sim"
	"synchrony/simp"
)

// must returns what a step of the compilation returns, which has no error.
func must[A, B any](t *testing.T, step func(x A) (B, api.Errno), x A) B {
	t.Helper()
	y, e := step(x)
	if e != api.OK {
		t.Fatalf("the error %d for %v", int(e), x)
	}
	return y
}

// expectSteps is P27.2: the machine does what an object of the last class does. There are at most as many instructions as asm.Worst says; it returns the greatest number.
func expectSteps(t *testing.T, r *rand.Rand, o api.Objects) int {
	t.Helper()
	im := must(t, Program, o)
	last := o.Classes[len(o.Classes)-1]
	x, e := obj.New(o, last.Name)
	c, f := cpu.New(im)
	worst, g := asm.Worst(im)
	if e != api.OK || f != api.OK || g != api.OK {
		t.Fatalf("%v: the errors are %d, %d and %d", o, int(e), int(f), int(g))
	}
	most := 0
	for i, row := range samples.Rows(r.Intn, o.Enums, last.In, 20) {
		want, _ := x.Step(row)
		if out, e := c.Step(row); e != api.OK || !slices.Equal(out, want) || !slices.Equal(c.Memory(), x.Memory()) || c.Count() > worst {
			t.Fatalf("%v: at %d the outputs for %v are %v, want %v; the memory is %v, want %v; the instructions are %d, at most %d; the error is %d", o, i, row, out, want, c.Memory(), x.Memory(), c.Count(), worst, int(e))
		}
		most = max(most, c.Count())
		if i == 10 {
			x.Reset()
			c.Reset()
		}
	}
	return most
}

// TestObjects is P27.2 for any object code, each class of which can be the last one.
func TestObjects(t *testing.T) {
	r := rand.New(rand.NewSource(2))
	sizes := map[int]int{}
	for range 300 {
		o := samples.Objects(r.Intn)
		for n := range o.Classes {
			sizes[expectSteps(t, r, api.Objects{Enums: o.Enums, Classes: o.Classes[:n+1]})]++
		}
	}
	if len(sizes) < 50 {
		t.Errorf("the numbers of instructions are %v", sizes)
	}
}

// TestMeaning is P27.2 for what random object code hardly has.
func TestMeaning(t *testing.T) {
	r := rand.New(rand.NewSource(3))
	plus := func(a, b api.Expr) api.Expr { return op(api.OpAdd, a, b) }
	count := api.Class{Name: "count", In: decls("a"), Out: decls("x y"), Mems: mems("m n")}
	count.Step = seq(set("x", state("m")), store("m", plus(state("m"), v("a"))), store("n", plus(v("x"), state("n"))), set("y", plus(state("m"), state("n"))))
	none := api.Class{Name: "none"}
	pair := api.Class{Name: "pair", In: decls("A a"), Out: decls("x y"), Locals: decls("p q u w"), Mems: mems("m"), Insts: insts("o:none i:count k:count l:none")}
	pair.Step = seq(
		call("i", "p q", plus(v("a"), number(1))), call("k", "u w", plus(v("p"), v("q"))), call("o", ""), reset("l"),
		by("A", api.TBool, seq(reset("i"), call("l", "")), seq(by("A", api.TBool, seq(reset("k")), seq(store("m", v("p")))), reset("k"))),
		set("x", plus(v("u"), state("m"))), set("y", either(v("A"), v("q"), v("w"))),
	)
	twice := api.Class{Name: "twice", In: decls("A B a"), Out: decls("x y"), Locals: decls("p q"), Insts: insts("i:pair k:pair")}
	twice.Step = seq(
		call("i", "x p", op(api.OpAnd, v("A"), v("B")), v("a")), call("k", "q y", v("B"), v("x")),
		by("B", api.TBool, nil, seq(reset("k"))), by("A", api.TBool, seq(reset("i")), nil),
	)
	same := api.Class{Name: "same", In: decls("A F"), Out: decls("x"), Locals: decls("p q")}
	same.Step = seq(
		by("A", api.TBool, nil, seq(set("p", number(5)))),
		by("F", api.TEnum+1, seq(by("A", api.TBool, seq(set("q", number(6))), seq(by("A", api.TBool, nil, seq(set("q", v("p")))))))),
		by("A", api.TBool, seq(set("x", v("q"))), seq(set("x", plus(v("p"), v("q"))))),
	)
	o := objects(count, none, pair, twice, same)
	for n := range o.Classes {
		for range 20 {
			first := o
			first.Classes = o.Classes[:n+1]
			expectImage(t, first)
			expectSteps(t, r, first)
		}
	}
}

// expectOutputs is G6: the machine has the outputs of the interpreter.
func expectOutputs(t *testing.T, r *rand.Rand, p api.Program, node api.Node, im api.Image) {
	t.Helper()
	s, e := sim.New(p, node.Name)
	c, f := cpu.New(im)
	worst, g := asm.Worst(im)
	if e != api.OK || f != api.OK || g != api.OK {
		t.Fatalf("the errors are %d, %d and %d", int(e), int(f), int(g))
	}
	for _, row := range samples.Rows(r.Intn, p.Enums, node.In, 16) {
		cells, _ := s.Step(row)
		var want []int
		for _, c := range cells {
			want = append(want, c.V)
		}
		if out, e := c.Step(row); e != api.OK || !slices.Equal(out, want) || c.Count() > worst {
			t.Fatalf("%s: at %d the outputs are %v, want %v; the instructions are %d, at most %d; the error is %d", node.Name, s.Time(), out, want, c.Count(), worst, int(e))
		}
	}
}

// compile checks the images of the nodes of a program, with and without the steps that can be left out.
func compile(t *testing.T, r *rand.Rand, p api.Program, n api.NProgram) {
	t.Helper()
	for _, all := range []bool{false, true} {
		if all {
			n = must(t, simp.Program, must(t, share.Program, n))
		}
		o := must(t, gen.Program, must(t, sched.Program, n))
		if all {
			o = must(t, fuse.Program, o)
		}
		for _, node := range p.Nodes {
			is := func(c api.Class) bool { return c.Name == node.Name }
			first := api.Objects{Enums: o.Enums, Classes: o.Classes[:slices.IndexFunc(o.Classes, is)+1]}
			im := expectImage(t, first)
			expectLayout(t, first, im)
			expectSteps(t, r, first)
			expectOutputs(t, r, p, node, im)
		}
	}
}

// TestTexts is P27.1 to P27.4 and G6, for programs with automata, too.
func TestTexts(t *testing.T) {
	r := rand.New(rand.NewSource(4))
	for _, s := range samples.Texts() {
		p, at, e := parse.Program(s)
		if e != api.OK {
			t.Fatalf("%.60q.. is refused at %d with the error %d", s, at, int(e))
		}
		for range 3 {
			compile(t, r, p, must(t, norm.Program, p))
		}
	}
}

// TestRandom is the same for random programs in normal form.
func TestRandom(t *testing.T) {
	r := rand.New(rand.NewSource(5))
	for range 150 {
		n := samples.Program(r.Intn)
		compile(t, r, norm.Back(n), n)
	}
}
