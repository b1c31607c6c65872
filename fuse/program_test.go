package fuse

import (
	"math/rand"
	"reflect"
	"slices"
	"testing"

	"synchrony/api"
	"synchrony/gen"
	"synchrony/obj"
	"synchrony/samples"
	"synchrony/sched"
)

// expectProgram is P24.4: the result is right object code with joined steps, and each class does the same.
func expectProgram(t *testing.T, r *rand.Rand, o api.Objects) api.Objects {
	t.Helper()
	before := deepCopy(o)
	is, e := Program(o)
	want := deepCopy(o)
	for i, c := range want.Classes {
		want.Classes[i].Step = refJoin(c.Step)
	}
	if e != api.OK || !obj.Same(is, want) {
		t.Fatalf("Program of\n%v is\n%v, want\n%v; the error is %d", o, is, want, int(e))
	}
	if !reflect.DeepEqual(deepCopy(o), before) {
		t.Errorf("the argument %v has changed", before)
	}
	expectNewMemory(t, o, is)
	if e := obj.Check(is); e != api.OK {
		t.Errorf("Check of the result returns %d", int(e))
	}
	if again, e := Program(is); e != api.OK || !obj.Same(again, is) {
		t.Errorf("Program of %v is %v; the error is %d", is, again, int(e))
	}
	for _, c := range o.Classes {
		expectSteps(t, r, o, is, c)
	}
	if t.Failed() {
		t.Fatalf("the object code is %v", o)
	}
	return is
}

// expectSteps checks that a class has the same steps in both.
func expectSteps(t *testing.T, r *rand.Rand, o, is api.Objects, c api.Class) {
	t.Helper()
	x, e := obj.New(o, c.Name)
	y, f := obj.New(is, c.Name)
	if e != api.OK || f != api.OK {
		t.Fatalf("New of %s returns the errors %d and %d", c.Name, int(e), int(f))
	}
	for _, row := range samples.Rows(r.Intn, o.Enums, c.In, 12) {
		want, _ := x.Step(row)
		if out, e := y.Step(row); e != api.OK || !slices.Equal(out, want) || !slices.Equal(x.Memory(), y.Memory()) {
			t.Errorf("%s: the outputs are %v, want %v, the memories %v, want %v; the error is %d", c.Name, out, want, y.Memory(), x.Memory(), int(e))
		}
	}
}

func casesOf(o api.Objects) int {
	n := 0
	for _, c := range o.Classes {
		n += Cases(c.Step)
	}
	return n
}

// TestProgram is P24.4 for random classes.
func TestProgram(t *testing.T) {
	r := rand.New(rand.NewSource(2))
	before, after, outputs := 0, 0, 0
	for range 300 {
		o := samples.Objects(r.Intn)
		is := expectProgram(t, r, o)
		before, after = before+casesOf(o), after+casesOf(is)
		for _, c := range o.Classes {
			outputs += len(c.Out)
		}
	}
	if after == 0 || after > before/2 || outputs < 1000 {
		t.Errorf("of %d cases there are still %d; there are %d outputs", before, after, outputs)
	}
}

// TestGenerated is P24.4 for the object code of programs, in which neighbouring equations are on the same clocks.
func TestGenerated(t *testing.T) {
	r := rand.New(rand.NewSource(3))
	before, after := 0, 0
	for range 200 {
		n, e := sched.Program(samples.Program(r.Intn))
		if e != api.OK {
			t.Fatalf("sched.Program returns the error %d", int(e))
		}
		o, e := gen.Program(n)
		if e != api.OK {
			t.Fatalf("gen.Program returns the error %d", int(e))
		}
		is := expectProgram(t, r, o)
		before, after = before+casesOf(o), after+casesOf(is)
	}
	if after == 0 || after > before*3/4 {
		t.Errorf("of %d cases there are still %d", before, after)
	}
}

// TestMeaning is P24.4 where combined cases read and store what others have assigned and stored.
func TestMeaning(t *testing.T) {
	r := rand.New(rand.NewSource(4))
	decls := func(t int, names ...string) []api.Decl {
		var l []api.Decl
		for _, name := range names {
			l = append(l, api.Decl{Name: name, Type: t})
		}
		return l
	}
	counter := api.Class{Name: "counter", Out: decls(api.TInt, "n"), Mems: []api.Mem{{Name: "m", Type: api.TInt, Init: 5}}, Step: seq(set("n", state("m")), store("m", api.Expr{Kind: api.EOp, Op: api.OpAdd, Args: []api.Expr{state("m"), number(1)}}))}
	c := api.Class{
		Name: "f", In: decls(api.TBool, "c", "d"), Out: decls(api.TInt, "x", "y"), Locals: decls(api.TInt, "p", "q"),
		Mems: []api.Mem{{Name: "m", Type: api.TInt}}, Insts: []api.Inst{{Name: "i", Class: "counter"}},
	}
	c.Step = seq(
		by("c", seq(set("p", state("m"))), seq(call("i", "p"))),
		by("c", nil, seq(store("m", v("p")), by("d", nil, seq(reset("i"))))),
		by("d", nil, nil),
		by("c", seq(store("m", number(7))), seq(by("d", seq(call("i", "q")), nil))),
		by("c", seq(let("x", 1)), seq(by("d", seq(set("x", v("q"))), seq(call("i", "x"))))),
		set("y", state("m")),
		by("c", seq(by("c", seq(store("m", v("p"))), seq(store("m", v("y"))))), nil),
	)
	is := expectProgram(t, r, api.Objects{Classes: []api.Class{counter, c}})
	if n := casesOf(is); n != 4 {
		t.Errorf("%d cases are left", n)
	}
}
