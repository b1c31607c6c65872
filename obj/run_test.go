package obj

import (
	"reflect"
	"slices"
	"strconv"
	"testing"

	"synchrony/api"
)

// instant has the inputs of a step, its outputs, and the memory behind it.
type instant struct{ in, out, memory []int }

func expectSteps(t *testing.T, what string, x *Object, l []instant) {
	t.Helper()
	for i, s := range l {
		in := slices.Clone(s.in)
		out, e := x.Step(in)
		if e != api.OK || !slices.Equal(out, s.out) {
			t.Errorf("%s: step %d returns %v, %d, want %v", what, i, out, int(e), s.out)
		}
		if m := x.Memory(); !slices.Equal(m, s.memory) {
			t.Errorf("%s: after step %d the memory is %v, want %v", what, i, m, s.memory)
		}
		if !slices.Equal(in, s.in) {
			t.Errorf("%s: step %d changed its argument", what, i)
		}
	}
}

// expectErrors checks calls with arguments that are not accepted, and that they change nothing.
func expectErrors(t *testing.T, x *Object, in []int, want api.Errno) {
	t.Helper()
	before := x.Memory()
	if out, e := x.Step(in); len(out) > 0 || e != want {
		t.Errorf("Step of %v returns %v, %d, want %d", in, out, int(e), int(want))
	}
	if m := x.Memory(); !slices.Equal(m, before) {
		t.Errorf("Step of %v: the memory is %v, it was %v", in, m, before)
	}
}

// ints returns lists of one step each: inputs, outputs and memory have one number.
func ints(l ...[3]int) []instant {
	var steps []instant
	for _, x := range l {
		steps = append(steps, instant{[]int{x[0]}, []int{x[1]}, []int{x[2]}})
	}
	return steps
}

// TestStep is P22.3: the example of the chapter, and a counter.
func TestStep(t *testing.T) {
	c := api.Class{Name: "f", Out: decls("o:i"), Mems: []api.Mem{{Name: "m", Type: api.TInt}}, Step: seq(assign("o", state("m")), store("m", op(api.OpAdd, state("m"), number(1))))}
	expectSteps(t, "the example", made(t, objects(c), "f"), []instant{{nil, []int{0}, []int{1}}, {nil, []int{1}, []int{2}}, {nil, []int{2}, []int{3}}})
	expectSteps(t, "a counter", made(t, objects(counter()), "counter"), ints([3]int{5, 5, 5}, [3]int{-7, -2, -2}, [3]int{-32767, 32767, 32767}, [3]int{1, -32768, -32768}))
	// Example 1 of the chapter.
	c = api.Class{Name: "f", In: decls("c:b"), Out: decls("o:i"), Locals: decls("x:i"), Step: seq(by("c", nil, seq(assign("x", number(5)))), by("c", seq(assign("o", number(0))), seq(assign("o", v("x")))))}
	expectSteps(t, "example 1", made(t, objects(c), "f"), []instant{{[]int{0}, []int{0}, nil}, {[]int{1}, []int{5}, nil}, {[]int{0}, []int{0}, nil}})
}

// TestStatementsExecuted is P22.3: each kind of statement.
func TestStatementsExecuted(t *testing.T) {
	c := api.Class{Name: "f", In: decls("a:i e:e r:b"), Out: decls("x:i y:i z:e"), Locals: decls("w:i"),
		Mems:  []api.Mem{{Name: "m", Type: api.TInt, Init: 10}, {Name: "l", Type: api.TEnum, Init: 2}},
		Insts: []api.Inst{{Name: "i", Class: "counter"}, {Name: "j", Class: "counter"}},
	}
	c.Step = seq(
		assign("x", state("m")),
		store("m", v("a")), // and what the memory has is read again
		store("m", op(api.OpMul, state("m"), number(2))),
		assign("y", op(api.OpAdd, state("m"), v("x"))),
		byTag("e", seq(call("i", "w", number(1))), seq(call("j", "w", v("a")), store("l", v("e"))), seq(assign("w", number(0)), store("m", number(-1)))),
		by("r", nil, seq(reset("j"), store("m", op(api.OpAdd, state("m"), v("w"))))),
		assign("z", state("l")),
	)
	x := made(t, objects(counter(), c), "f")
	if m := x.Memory(); !slices.Equal(m, []int{10, 2, 0, 0}) {
		t.Errorf("the first memory is %v", m)
	}
	expectSteps(t, "all statements", x, []instant{
		{[]int{3, 0, 0}, []int{10, 16, 2}, []int{6, 2, 1, 0}},
		{[]int{4, 1, 0}, []int{6, 14, 1}, []int{8, 1, 1, 4}},
		{[]int{5, 1, 0}, []int{8, 18, 1}, []int{10, 1, 1, 9}},
		{[]int{6, 2, 0}, []int{10, 22, 1}, []int{-1, 1, 1, 9}},
		{[]int{1, 0, 1}, []int{-1, 1, 1}, []int{4, 1, 2, 0}},
		{[]int{-20000, 1, 1}, []int{4, 25540, 1}, []int{5536, 1, 2, 0}},
	})
}

// TestExpressionsExecuted is P22.3: the operators are those of layer 5, and of an EIf one argument counts.
func TestExpressionsExecuted(t *testing.T) {
	a, b, p, q := v("a"), v("b"), v("p"), v("q")
	for i, c := range []struct {
		e    api.Expr
		want []int // for the inputs a = 7, b = -2 and a = 0, b = 0 and a = -32768, b = 32767
	}{
		{op(api.OpAdd, a, b), []int{5, 0, -1}}, {op(api.OpSub, a, b), []int{9, 0, 1}}, {op(api.OpMul, a, b), []int{-14, 0, -32768}}, {op(api.OpDiv, a, b), []int{-3, 0, -1}}, {op(api.OpMod, a, b), []int{1, 0, -1}}, {op(api.OpNeg, a), []int{-7, 0, -32768}},
		{either(op(api.OpLt, a, b), a, b), []int{-2, 0, -32768}}, {either(op(api.OpGe, a, b), a, number(9)), []int{7, 0, 9}}, {either(op(api.OpEq, a, b), number(1), number(2)), []int{2, 1, 2}}, {either(op(api.OpNe, a, b), number(1), number(2)), []int{1, 2, 1}}, {either(op(api.OpLe, a, b), a, b), []int{-2, 0, -32768}}, {either(op(api.OpGt, a, b), a, b), []int{7, 0, 32767}},
		{either(op(api.OpNot, p), a, b), []int{-2, 0, -32768}}, {either(op(api.OpAnd, p, q), number(1), number(2)), []int{2, 2, 2}}, {either(op(api.OpOr, p, q), number(1), number(2)), []int{1, 2, 1}}, {either(op(api.OpXor, p, q), number(1), number(2)), []int{1, 2, 1}},
		{either(p, either(q, number(1), number(2)), either(q, number(3), number(4))), []int{2, 4, 3}},
	} {
		// p is a > b, and q is a < b.
		c1 := api.Class{Name: "f", In: decls("a:i b:i"), Out: decls("o:i"), Locals: decls("p:b q:b"), Step: seq(assign("p", op(api.OpGt, a, b)), assign("q", op(api.OpLt, a, b)), assign("o", c.e))}
		x := made(t, objects(c1), "f")
		for k, in := range [][]int{{7, -2}, {0, 0}, {-32768, 32767}} {
			if out, e := x.Step(in); e != api.OK || !slices.Equal(out, c.want[k:k+1]) {
				t.Errorf("%d: Step of %v returns %v, %d, want %d", i, in, out, int(e), c.want[k])
			}
		}
	}
}

// TestInstances is P22.2, P22.4: instances in instances, their memories in order, and what a reset returns to the beginning.
func TestInstances(t *testing.T) {
	mems := func(name string, init int) []api.Mem { return []api.Mem{{Name: name, Type: api.TInt, Init: init}} }
	two := api.Class{Name: "two", In: decls("a:i"), Out: decls("s:i d:i"), Mems: mems("m", 100), Insts: []api.Inst{{Name: "x", Class: "counter"}, {Name: "y", Class: "counter"}},
		Step: seq(call("y", "d", number(1)), call("x", "s", v("a")), store("m", op(api.OpSub, state("m"), v("d"))))}
	four := api.Class{Name: "four", In: decls("a:i r:b"), Out: decls("s:i"), Locals: decls("t:i u:i w:i n:i"), Mems: mems("m", -1), Insts: []api.Inst{{Name: "p", Class: "two"}, {Name: "c", Class: "counter"}, {Name: "q", Class: "two"}},
		Step: seq(by("r", nil, seq(reset("q"))), call("p", "s t", v("a")), call("q", "u w", v("s")), call("c", "n", number(2)), store("m", v("w")))}
	o := objects(counter(), two, four)
	x := made(t, o, "four")
	begin := []int{-1, 100, 0, 0, 0, 100, 0, 0}
	if m := x.Memory(); !slices.Equal(m, begin) {
		t.Errorf("the first memory is %v", m)
	}
	steps := []instant{
		{[]int{5, 0}, []int{5}, []int{1, 99, 5, 1, 2, 99, 5, 1}},
		{[]int{1, 0}, []int{6}, []int{2, 97, 6, 2, 4, 97, 11, 2}},
		{[]int{0, 1}, []int{6}, []int{1, 94, 6, 3, 6, 99, 6, 1}},
		{[]int{-6, 0}, []int{0}, []int{2, 90, 0, 4, 8, 97, 6, 2}},
	}
	expectSteps(t, "four", x, steps)
	x.Reset()
	if m := x.Memory(); !slices.Equal(m, begin) {
		t.Errorf("the memory after Reset is %v", m)
	}
	expectSteps(t, "four after Reset", x, steps)
	expectSteps(t, "another object", made(t, o, "two"), []instant{{[]int{2}, []int{2, 1}, []int{99, 2, 1}}})
	if e := x.Load([]int{1, 94, 6, 3, 6, 99, 6, 1}); e != api.OK {
		t.Errorf("Load returns %d", int(e))
	}
	expectSteps(t, "four after Load", x, steps[3:])
}

// TestLoad is P22.4: the errors, and that they change nothing.
func TestLoad(t *testing.T) {
	inner := api.Class{Name: "g", Mems: []api.Mem{{Name: "k", Type: api.TBool, Init: 1}, {Name: "l", Type: api.TEnum}}}
	main := api.Class{Name: "f", Mems: []api.Mem{{Name: "m", Type: api.TInt, Init: 3}}, Insts: []api.Inst{{Name: "i", Class: "g"}, {Name: "n", Class: "none"}, {Name: "j", Class: "g"}}}
	x := made(t, objects(api.Class{Name: "none"}, inner, main), "f")
	is := []int{3, 1, 0, 1, 0}
	expect := func(m []int, want api.Errno) {
		t.Helper()
		argument := slices.Clone(m)
		if e := x.Load(argument); e != want {
			t.Errorf("Load of %v returns %d, want %d", m, int(e), int(want))
		}
		if want == api.OK {
			is = m
		}
		if l := x.Memory(); !slices.Equal(l, is) || !slices.Equal(argument, m) {
			t.Errorf("after Load of %v the memory is %v, want %v", m, l, is)
		}
		for i := range argument {
			argument[i] = 1
		}
		if l := x.Memory(); !slices.Equal(l, is) {
			t.Errorf("the argument of Load is kept")
		}
	}
	expect(nil, api.ErrArity)
	expect([]int{1, 1, 1, 1}, api.ErrArity)
	expect([]int{1, 1, 1, 1, 1, 1}, api.ErrArity)
	expect([]int{40000, 9, 9, 9}, api.ErrArity)
	expect([]int{-32768, 0, 2, 1, 1}, api.OK)
	for i, bad := range [][]int{{-32769, 32768}, {-1, 2}, {-1, 3}, {-1, 2}, {-1, 3, 1 << 62}} {
		for _, v := range bad {
			m := []int{7, 1, 1, 0, 0}
			m[i] = v
			expect(m, api.ErrRange)
		}
	}
	expect([]int{32767, 1, 0, 0, 2}, api.OK)
	l := x.Memory()
	l[0] = 5
	if m := x.Memory(); m[0] != 32767 {
		t.Error("the result of Memory is kept")
	}
}

// TestStepErrors is P22.3.
func TestStepErrors(t *testing.T) {
	c := api.Class{Name: "f", In: decls("a:i b:b e:e"), Mems: []api.Mem{{Name: "m", Type: api.TInt}}, Step: seq(store("m", v("a")))}
	x := made(t, objects(c), "f")
	for _, in := range [][]int{nil, {1}, {1, 1}, {1, 1, 1, 1}, {40000, 2}} {
		expectErrors(t, x, in, api.ErrArity)
	}
	for _, in := range [][]int{{32768, 0, 0}, {-32769, 0, 0}, {0, 2, 0}, {0, -1, 0}, {0, 0, 3}, {0, 0, -1}, {0, 0, 1 << 62}} {
		expectErrors(t, x, in, api.ErrRange)
	}
	for _, in := range [][]int{{32767, 1, 2}, {-32768, 0, 0}} {
		expectSteps(t, "the bounds", x, []instant{{in, nil, in[:1]}})
	}
}

// TestNone is rule 1 for nil objects, and for one that New did not return.
func TestNone(t *testing.T) {
	for _, x := range []*Object{nil, {}} {
		for _, l := range [][]int{nil, {1}} {
			if out, e := x.Step(l); len(out) > 0 || e != api.ErrNil {
				t.Errorf("Step returns %v, %d", out, int(e))
			}
			if e := x.Load(l); e != api.ErrNil {
				t.Errorf("Load returns %d", int(e))
			}
		}
		x.Reset()
		if m := x.Memory(); len(m) > 0 {
			t.Errorf("Memory returns %v", m)
		}
	}
}

// TestNew is P22.2: errors, and that the argument is neither changed nor kept.
func TestNew(t *testing.T) {
	o := objects(counter(), pairClass(), wide(by("b", nil, seq(call("i", "x", v("a")), store("m", op(api.OpSub, v("x"), number(2)))))))
	for _, class := range []string{"", "g", "i", "Counter", "E"} {
		if x, e := New(o, class); x != nil || e != api.ErrName {
			t.Errorf("New of %s returns %v, %d", class, x, int(e))
		}
	}
	if x, e := New(api.Objects{}, ""); x != nil || e != api.ErrName {
		t.Errorf("New of nothing returns %v, %d", x, int(e))
	}
	bad := deepCopy(o)
	bad.Classes[2].Step[0].Right = truth(1)
	for _, class := range []string{"counter", "f", "z"} {
		if x, e := New(bad, class); x != nil || e != api.ErrType {
			t.Errorf("New of wrong object code returns %v, %d", x, int(e))
		}
	}
	kept := deepCopy(o)
	x := made(t, o, "f")
	if !reflect.DeepEqual(o, kept) {
		t.Error("New changed its argument")
	}
	other := made(t, kept, "f")
	destroy(reflect.ValueOf(&o).Elem())
	in := []int{3, 1, 0, 0, 2}
	out, e := x.Step(in)
	want, f := other.Step(in)
	if e != api.OK || f != api.OK || !slices.Equal(out, want) || !slices.Equal(x.Memory(), other.Memory()) || !slices.Equal(x.Memory(), []int{1, 1, 2, 3, 0}) {
		t.Errorf("the object has the outputs %v and the memory %v, want %v and %v", out, x.Memory(), want, other.Memory())
	}
	x.Reset()
	if m := x.Memory(); !slices.Equal(m, []int{7, 1, 2, 0, 0}) || x.Load(m) != api.OK {
		t.Errorf("the memory after Reset is %v", m)
	}
}

// destroy changes all numbers, names and lists in v.
func destroy(v reflect.Value) {
	switch v.Kind() {
	case reflect.Struct:
		for i := range v.NumField() {
			destroy(v.Field(i))
		}
	case reflect.Slice:
		for i := range v.Len() {
			destroy(v.Index(i))
		}
		v.SetZero()
	case reflect.Int:
		v.SetInt(-1)
	case reflect.String:
		v.SetString("?")
	}
}

// TestManyInstances is P22.2 to P22.4 for a class with more instances, directly or indirectly, than could be made.
func TestManyInstances(t *testing.T) {
	for _, mems := range [][]api.Mem{nil, {{Name: "m", Type: api.TInt}}} {
		l := []api.Class{{Name: "c0", Mems: mems}}
		for i := range 80 {
			inner := "c" + strconv.Itoa(i)
			l = append(l, api.Class{Name: "c" + strconv.Itoa(i+1), In: decls("b:b"), Insts: []api.Inst{{Name: "x", Class: inner}, {Name: "y", Class: inner}}, Step: seq(by("b", nil, seq(reset("x"))))})
		}
		x := made(t, objects(l...), "c80")
		if out, e := x.Step([]int{1}); e != api.OK || len(out) > 0 {
			t.Errorf("Step returns %v, %d", out, int(e))
		}
		x.Reset()
		if mems == nil {
			if m := x.Memory(); len(m) > 0 || x.Load(m) != api.OK {
				t.Errorf("Memory returns %v", m)
			}
		}
		for n := range 2 {
			if e := x.Load(make([]int, n)); e != api.ErrArity && n+len(mems) > 0 {
				t.Errorf("Load of %d values returns %d", n, int(e))
			}
		}
	}
}
