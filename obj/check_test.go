package obj

import (
	"reflect"
	"strconv"
	"testing"

	"synchrony/api"
)

// pairClass has two outputs of different types.
func pairClass() api.Class {
	return api.Class{
		Name: "pair", In: decls("z:b u:e"), Out: decls("v:i w:b"),
		Step: seq(assign("v", number(1)), assign("w", v("z"))),
	}
}

// wide has variables and memories of all types, and three instances. It assigns its output before the statements.
func wide(step ...api.Stmt) api.Class {
	return api.Class{
		Name: "f", In: decls("a:i b:b c:b d:b e:e"), Out: decls("o:i"), Locals: decls("x:i y:i p:b q:b r:e s:e"),
		Mems:  []api.Mem{{Name: "m", Type: api.TInt, Init: 7}, {Name: "k", Type: api.TBool, Init: 1}, {Name: "l", Type: api.TEnum, Init: 2}},
		Insts: []api.Inst{{Name: "i", Class: "counter"}, {Name: "j", Class: "counter"}, {Name: "g", Class: "pair"}},
		Step:  append(seq(assign("o", number(0))), step...),
	}
}

// steps are statements behind the first one of the class, and the error that they cause.
type steps struct {
	e    api.Errno
	step []api.Stmt
}

func step(e api.Errno, l ...api.Stmt) steps { return steps{e, l} }

func checkSteps(t *testing.T, l []steps) {
	t.Helper()
	for i, x := range l {
		expectCheck(t, i, objects(counter(), pairClass(), wide(x.step...)), x.e)
	}
}

// TestRight is P22.1: right statements of all kinds.
func TestRight(t *testing.T) {
	for i, o := range []api.Objects{{}, {Classes: []api.Class{{}, {Name: "f"}}}, {Enums: enums()}, objects(counter()), objects(counter(), pairClass())} {
		expectCheck(t, i, o, api.OK)
	}
	tag := constant(api.TEnum, 1)
	checkSteps(t, []steps{
		step(api.OK),
		step(api.OK, assign("x", v("a")), assign("y", op(api.OpAdd, v("x"), v("o")))),
		step(api.OK, assign("p", op(api.OpEq, v("e"), state("l"))), assign("r", either(v("p"), tag, v("e"))), assign("s", v("r")), assign("q", op(api.OpNe, v("p"), op(api.OpNot, truth(1))))),
		step(api.OK, store("m", op(api.OpNeg, state("m"))), store("m", number(-32768)), store("k", op(api.OpLt, v("a"), v("o"))), store("l", v("e"))),
		step(api.OK, by("b", nil, nil), byTag("e", nil, seq(assign("x", number(1))), seq(by("c", seq(assign("x", number(2))), []api.Stmt{}), reset("i"))), by("b", seq(reset("i")), nil)),
		step(api.OK, call("i", "x", v("a")), call("i", "y", v("x"))),
		step(api.OK, call("g", "x p", v("b"), tag), by("p", nil, seq(call("j", "y", op(api.OpMul, v("x"), state("m")))))),
		step(api.OK, reset("i"), reset("g"), reset("i")),
	})
	// The names of variables, memories and instances need not be identifiers.
	odd := api.Class{Out: decls(":i"), Mems: []api.Mem{{Name: "1 +", Type: api.TInt}}, Insts: []api.Inst{{Name: "if"}}, Step: seq(call("if", ""), assign("", state("1 +")))}
	expectCheck(t, "odd names", objects(api.Class{}, odd), api.ErrTwice)
	odd.Name = "?"
	expectCheck(t, "odd names", objects(api.Class{}, odd), api.OK)
}

// TestEnums is P22.1, 1.
func TestEnums(t *testing.T) {
	tags := func(n int) api.Enum { return api.Enum{Tags: make([]string, n)} }
	many := func(n int) []api.Enum {
		l := make([]api.Enum, n)
		for i := range l {
			l[i] = tags(1)
		}
		return l
	}
	wrong := api.Class{In: decls("a:b a:x")}
	for i, c := range []struct {
		enums []api.Enum
		e     api.Errno
	}{
		{many(24), api.OK}, {many(25), api.ErrForm}, {many(1000), api.ErrForm}, {[]api.Enum{tags(0)}, api.ErrForm}, {[]api.Enum{tags(16)}, api.OK}, {[]api.Enum{tags(17)}, api.ErrForm},
		{append(many(23), tags(0)), api.ErrForm}, {append(many(23), tags(17)), api.ErrForm}, {append(many(1), tags(16)), api.OK},
	} {
		expectCheck(t, i, api.Objects{Enums: c.enums}, c.e)
		if c.e == api.OK {
			c.e = api.ErrType
		}
		expectCheck(t, i, api.Objects{Enums: c.enums, Classes: []api.Class{wrong}}, c.e)
	}
}

// TestClasses is P22.1, 2: the errors of a class apart from its statements, in their order.
func TestClasses(t *testing.T) {
	on := []api.On{{Name: "b", T: api.TBool, Tag: 1}}
	sampled := func(t int) []api.Decl { return []api.Decl{{Name: "z", Type: t, Clock: on}} }
	mem := func(t, init int) []api.Mem { return []api.Mem{{Name: "n", Type: t, Init: init}} }
	unknown := []api.Inst{{Name: "h", Class: "h"}}
	wrong := seq(assign("o", v("z")))
	for i, c := range []struct {
		change func(c *api.Class)
		e      api.Errno
	}{
		{func(c *api.Class) { c.Name = "pair" }, api.ErrTwice},
		{func(c *api.Class) { c.Name, c.In = "pair", decls("z:x") }, api.ErrTwice},
		{func(c *api.Class) { c.In = append(c.In, decls("z:x")...) }, api.ErrType},
		{func(c *api.Class) { c.Out = append(c.Out, api.Decl{Name: "z", Type: api.TEnum + 2}) }, api.ErrType},
		{func(c *api.Class) { c.Locals = append(c.Locals, api.Decl{Name: "z", Type: -1}) }, api.ErrType},
		{func(c *api.Class) { c.Locals = append(c.Locals, api.Decl{Name: "z", Type: api.TEnum + 1}) }, api.OK},
		{func(c *api.Class) { c.In = append(c.In, sampled(api.TInt)...) }, api.ErrForm},
		{func(c *api.Class) { c.Out = append(c.Out, sampled(api.TInt)...) }, api.ErrForm},
		{func(c *api.Class) { c.Locals = append(c.Locals, sampled(api.TInt)...) }, api.ErrForm},
		{func(c *api.Class) { c.Locals = append(c.Locals, sampled(0)...) }, api.ErrType},
		{func(c *api.Class) { c.In, c.Out = append(c.In, sampled(api.TInt)...), decls("o:x") }, api.ErrForm},
		{func(c *api.Class) { c.Out, c.Locals = append(c.Out, sampled(api.TInt)...), decls("x:x") }, api.ErrForm},
		{func(c *api.Class) { c.Out, c.Locals = decls("o:x"), append(c.Locals, sampled(api.TInt)...) }, api.ErrType},
		{func(c *api.Class) { c.Mems = mem(api.TInt, 32767) }, api.OK},
		{func(c *api.Class) { c.Mems = mem(api.TInt, 32768) }, api.ErrType},
		{func(c *api.Class) { c.Mems = mem(api.TInt, -32769) }, api.ErrType},
		{func(c *api.Class) { c.Mems = mem(api.TBool, 2) }, api.ErrType},
		{func(c *api.Class) { c.Mems = mem(api.TEnum, 3) }, api.ErrType},
		{func(c *api.Class) { c.Mems = mem(api.TEnum+1, 0) }, api.OK},
		{func(c *api.Class) { c.Mems = mem(api.TEnum+1, 1) }, api.ErrType},
		{func(c *api.Class) { c.Mems = mem(api.TEnum+2, 0) }, api.ErrType},
		{func(c *api.Class) { c.Mems = mem(0, 0) }, api.ErrType},
		{func(c *api.Class) { c.Mems, c.Locals = mem(0, 0), sampled(api.TInt) }, api.ErrForm},
		{func(c *api.Class) { c.Mems, c.Locals = mem(api.TInt, 0), decls("y:i y:i") }, api.ErrTwice},
		{func(c *api.Class) { c.Mems, c.Locals = mem(0, 0), decls("y:i y:i") }, api.ErrType},
		{func(c *api.Class) { c.In = append(c.In, decls("a:b")...) }, api.ErrTwice},
		{func(c *api.Class) { c.Out = append(c.Out, decls("a:i")...) }, api.ErrTwice},
		{func(c *api.Class) { c.Locals = append(c.Locals, decls("o:i")...) }, api.ErrTwice},
		{func(c *api.Class) { c.Mems = append(c.Mems, api.Mem{Name: "x", Type: api.TInt}) }, api.ErrTwice},
		{func(c *api.Class) { c.Mems = append(c.Mems, api.Mem{Name: "m", Type: api.TInt}) }, api.ErrTwice},
		{func(c *api.Class) { c.Insts = append(c.Insts, api.Inst{Name: "m", Class: "pair"}) }, api.ErrTwice},
		{func(c *api.Class) { c.Insts = append(c.Insts, api.Inst{Name: "o", Class: "pair"}) }, api.ErrTwice},
		{func(c *api.Class) { c.Insts = append(c.Insts, api.Inst{Name: "i", Class: "pair"}) }, api.ErrTwice},
		{func(c *api.Class) { c.Insts = append(unknown, api.Inst{Name: "m", Class: "pair"}) }, api.ErrTwice},
		{func(c *api.Class) { c.Insts = unknown }, api.ErrName},
		{func(c *api.Class) { c.Insts = []api.Inst{{Name: "h", Class: "f"}} }, api.ErrName},
		{func(c *api.Class) { c.Insts = []api.Inst{{Name: "h"}} }, api.ErrName},
		{func(c *api.Class) { c.Insts = []api.Inst{{Name: "f", Class: "pair"}, {Name: "pair", Class: "pair"}} }, api.OK},
		{func(c *api.Class) { c.Insts, c.Step = unknown, seq(assign("o", truth(0))) }, api.ErrName},
		{func(c *api.Class) { c.Step = wrong }, api.ErrName},
		{func(c *api.Class) { c.Step, c.Out = wrong, append(c.Out, decls("z:i")...) }, api.ErrOrder},
		{func(c *api.Class) { c.Step = nil }, api.ErrOrder},
		{func(c *api.Class) { c.Out = append(c.Out, decls("z:i")...) }, api.ErrOrder},
		{func(c *api.Class) { c.Step, c.Out = nil, nil }, api.OK},
	} {
		x := wide()
		c.change(&x)
		expectCheck(t, i, objects(counter(), pairClass(), x), c.e)
		second := wide()
		second.Name, second.Step = "second", seq(api.Stmt{})
		if c.e == api.OK {
			c.e = api.ErrForm
		}
		expectCheck(t, i, objects(counter(), pairClass(), x, second), c.e)
	}
	caller := wide()
	expectCheck(t, "a class that comes later", objects(counter(), caller, pairClass()), api.ErrName)
}

// malformed are no object expressions.
func malformed() []api.Expr {
	a, one := v("a"), number(1)
	with := func(e api.Expr, f func(e *api.Expr)) api.Expr {
		f(&e)
		return e
	}
	var l []api.Expr
	for _, kind := range []int{0, -1, api.EPre, api.EArrow, api.EFby, api.EWhen, api.EMerge, api.ECall, api.EWord, api.EState + 1} {
		l = append(l, api.Expr{Kind: kind}, api.Expr{Kind: kind, Args: []api.Expr{a}}, api.Expr{Kind: kind, Args: []api.Expr{a, a}})
	}
	right := []api.Expr{one, a, state("m"), op(api.OpNeg, a), op(api.OpAdd, a, a), either(v("b"), a, a)}
	for i, e := range right {
		if i != 3 && i != 4 {
			l = append(l, with(e, func(e *api.Expr) { e.Op = api.OpNeg }))
		}
		if i != 0 {
			l = append(l, with(e, func(e *api.Expr) { e.T = 1 }), with(e, func(e *api.Expr) { e.V = 1 }))
		}
		if i != 1 && i != 2 {
			l = append(l, with(e, func(e *api.Expr) { e.Name = "a" }))
		}
		l = append(l, with(e, func(e *api.Expr) { e.Args = append([]api.Expr{a}, e.Args...) }))
		if n := len(e.Args); n > 0 {
			l = append(l, with(e, func(e *api.Expr) { e.Args = e.Args[1:] }))
		}
	}
	for _, o := range []int{0, -1, api.OpGe + 1} {
		l = append(l, op(o), op(o, a), op(o, a, a))
	}
	for o := api.OpNot; o <= api.OpGe; o++ {
		l = append(l, op(o), op(o, a, a, a))
	}
	return l
}

// TestMalformed is P22.1: expressions that are no object expressions, in each place.
func TestMalformed(t *testing.T) {
	for i, e := range malformed() {
		for k, e := range []api.Expr{e, op(api.OpNeg, e), op(api.OpAdd, v("z"), e), op(api.OpAnd, number(1), e), either(v("x"), v("z"), op(api.OpNot, e))} {
			for _, s := range []api.Stmt{assign("z", e), store("z", e), call("i", "z", e)} {
				expectCheck(t, strconv.Itoa(i)+" in "+strconv.Itoa(k), objects(counter(), pairClass(), wide(s)), api.ErrForm)
			}
		}
	}
}

// TestExpressions is P22.1: the errors of object expressions, and which one comes first.
func TestExpressions(t *testing.T) {
	tag, other, a, b, x, z := constant(api.TEnum, 1), constant(api.TEnum+1, 0), v("a"), v("b"), v("x"), v("z")
	mixed := op(api.OpAdd, a, b) // ErrType
	for i, c := range []struct {
		right api.Expr
		kind  string // a variable of its type
		e     api.Errno
	}{
		{number(32767), "x", api.OK}, {number(-32768), "x", api.OK}, {number(32768), "x", api.ErrType}, {number(-32769), "x", api.ErrType},
		{truth(0), "p", api.OK}, {truth(1), "p", api.OK}, {truth(2), "p", api.ErrType}, {truth(-1), "p", api.ErrType}, {constant(api.TEnum, 2), "r", api.OK}, {constant(api.TEnum, 3), "r", api.ErrType}, {constant(api.TEnum, -1), "r", api.ErrType},
		{constant(api.TEnum+2, 0), "r", api.ErrType}, {constant(0, 0), "x", api.ErrType}, {constant(-1, 0), "x", api.ErrType},
		{a, "x", api.OK}, {b, "p", api.OK}, {v("e"), "r", api.OK}, {v("o"), "x", api.OK}, {z, "x", api.ErrName}, {v("m"), "x", api.ErrName}, {v("i"), "x", api.ErrName}, {v(""), "x", api.ErrName}, {x, "y", api.ErrOrder}, {x, "x", api.ErrOrder},
		{state("m"), "x", api.OK}, {state("k"), "p", api.OK}, {state("l"), "r", api.OK}, {state("z"), "x", api.ErrName}, {state("a"), "x", api.ErrName}, {state("i"), "x", api.ErrName},
		{op(api.OpNot, b), "p", api.OK}, {op(api.OpNot, a), "p", api.ErrType}, {op(api.OpNeg, a), "x", api.OK}, {op(api.OpNeg, b), "x", api.ErrType}, {op(api.OpAnd, b, truth(1)), "p", api.OK}, {op(api.OpXor, b, a), "p", api.ErrType},
		{op(api.OpEq, tag, v("e")), "p", api.OK}, {op(api.OpEq, tag, other), "p", api.ErrType}, {op(api.OpNe, a, b), "p", api.ErrType}, {op(api.OpGe, a, a), "p", api.OK}, {op(api.OpGe, tag, tag), "p", api.ErrType}, {op(api.OpMod, a, a), "x", api.OK},
		{either(b, a, number(1)), "x", api.OK}, {either(b, tag, v("e")), "r", api.OK}, {either(b, b, b), "p", api.OK}, {either(a, a, a), "x", api.ErrType}, {either(tag, a, a), "x", api.ErrType}, {either(b, a, b), "x", api.ErrType}, {either(b, tag, other), "r", api.ErrType},
		{mixed, "x", api.ErrType}, {op(api.OpAdd, x, z), "x", api.ErrOrder}, {op(api.OpAdd, z, x), "x", api.ErrName}, {op(api.OpAdd, b, z), "x", api.ErrName}, {op(api.OpAdd, mixed, z), "x", api.ErrType}, {op(api.OpAdd, z, mixed), "x", api.ErrName}, {op(api.OpAdd, x, mixed), "x", api.ErrOrder},
		{either(a, z, a), "x", api.ErrName}, {either(a, a, z), "x", api.ErrName}, {either(z, x, mixed), "x", api.ErrName}, {either(b, x, z), "x", api.ErrOrder}, {either(b, mixed, z), "x", api.ErrType}, {op(api.OpNeg, op(api.OpNeg, op(api.OpNeg, z))), "x", api.ErrName},
	} {
		expectCheck(t, i, objects(counter(), pairClass(), wide(assign(c.kind, c.right))), c.e)
		memory := map[string]string{"x": "m", "y": "m", "p": "k", "r": "l"}[c.kind]
		expectCheck(t, i, objects(counter(), pairClass(), wide(store(memory, c.right))), c.e)
		if c.e != api.OK {
			expectCheck(t, i, objects(counter(), pairClass(), wide(assign("z", c.right))), c.e)
		}
	}
}

// TestFields is P22.1: statements of all kinds, with each field that they do not have, and of other kinds.
func TestFields(t *testing.T) {
	right := []api.Stmt{assign("x", v("a")), store("m", v("a")), by("b", nil, nil), call("i", "x", v("a")), reset("i")}
	fields := []func(s *api.Stmt){
		func(s *api.Stmt) { s.T = 1 },
		func(s *api.Stmt) { s.Right = number(0) },
		func(s *api.Stmt) { s.Right.Name = "a" },
		func(s *api.Stmt) { s.Right.Args = make([]api.Expr, 1) },
		func(s *api.Stmt) { s.Outs = []string{""} },
		func(s *api.Stmt) { s.Args = []api.Expr{{}} },
		func(s *api.Stmt) { s.Branches = [][]api.Stmt{nil} },
	}
	has := [][]int{{1, 2, 3}, {1, 2, 3}, {0, 6}, {4, 5}, {}}
	for i, s := range right {
		expectCheck(t, s.Kind, objects(counter(), pairClass(), wide(s)), api.OK)
		for k, set := range fields {
			changed := deepCopy(s)
			set(&changed)
			is := map[int]bool{}
			for _, k := range has[i] {
				is[k] = true
			}
			if !is[k] {
				expectCheck(t, s.Kind, objects(counter(), pairClass(), wide(changed)), api.ErrForm)
				changed.Name = "z"
				expectCheck(t, s.Kind, objects(counter(), pairClass(), wide(by("b", nil, seq(changed)))), api.ErrForm)
			}
		}
		for _, kind := range []int{0, -1, api.SReset + 1} {
			s.Kind = kind
			expectCheck(t, kind, objects(counter(), pairClass(), wide(s)), api.ErrForm)
		}
		empty := api.Stmt{Kind: api.SReset, Name: "i", Outs: []string{}, Args: []api.Expr{}, Branches: [][]api.Stmt{}, Right: api.Expr{Args: []api.Expr{}}}
		expectCheck(t, "empty lists", objects(counter(), pairClass(), wide(empty)), api.OK)
	}
}

// TestStatements is P22.1: the errors of each kind of statement, and which one comes first.
func TestStatements(t *testing.T) {
	a, x, z, yes, tag := v("a"), v("x"), v("z"), truth(1), constant(api.TEnum, 1)
	other := byTag("e", nil)
	other.T = api.TEnum + 1
	number3 := by("a", nil, nil)
	number3.T = api.TInt
	none := by("b", nil, nil)
	none.T = 0
	checkSteps(t, []steps{
		// SAssign
		step(api.ErrOrder, assign("z", x)), step(api.ErrType, assign("z", op(api.OpNot, a))), step(api.ErrName, assign("z", a)), step(api.ErrName, assign("a", a)), step(api.ErrName, assign("a", yes)), step(api.ErrName, assign("m", a)), step(api.ErrName, assign("i", a)),
		step(api.ErrTwice, assign("o", a)), step(api.ErrTwice, assign("o", yes)), step(api.ErrTwice, assign("x", a), assign("x", a)), step(api.ErrTwice, assign("x", a), assign("x", x)), step(api.ErrType, assign("x", yes)), step(api.ErrType, assign("p", a)), step(api.ErrType, assign("r", a)), step(api.ErrType, assign("r", constant(api.TEnum+1, 0))), step(api.ErrType, assign("x", tag)),
		// SStore
		step(api.ErrOrder, store("z", x)), step(api.ErrName, store("z", a)), step(api.ErrName, store("x", a)), step(api.ErrName, store("o", a)), step(api.ErrName, store("a", yes)), step(api.ErrName, store("i", a)), step(api.ErrType, store("m", yes)), step(api.ErrType, store("k", a)), step(api.ErrType, store("l", constant(api.TEnum+1, 0))), step(api.ErrOrder, store("m", x)),
		// SCase
		step(api.ErrName, by("z", nil, nil)), step(api.ErrName, by("m", nil, nil)), step(api.ErrName, by("k", nil, nil)), step(api.ErrName, by("i", nil, nil)), step(api.ErrOrder, by("p", nil, nil)), step(api.ErrOrder, byTag("p")), step(api.ErrOrder, by("x", nil, nil)), step(api.ErrType, by("a", nil, nil)), step(api.ErrType, number3), step(api.ErrType, byTag("b", nil, nil)), step(api.ErrType, by("e", nil, nil, nil)), step(api.ErrType, other), step(api.ErrType, none), step(api.ErrType, byTag("b")),
		step(api.ErrArity, by("b")), step(api.ErrArity, by("b", nil)), step(api.ErrArity, by("b", nil, nil, nil)), step(api.ErrArity, byTag("e", nil, nil)), step(api.ErrArity, byTag("e", nil, nil, nil, nil)), step(api.ErrArity, by("b", seq(assign("z", a)))),
		step(api.ErrName, by("b", seq(assign("z", a)), seq(assign("x", yes)))), step(api.ErrType, by("b", seq(assign("x", yes)), seq(assign("z", a)))), step(api.ErrType, by("b", nil, seq(assign("y", a), assign("x", yes), assign("z", a)))), step(api.ErrOrder, by("b", seq(by("p", nil, nil)), nil)), step(api.ErrType, by("b", nil, seq(byTag("e", nil, nil, seq(assign("x", yes)))))),
		// SCall
		step(api.ErrName, call("z", "x", a)), step(api.ErrName, call("z", "")), step(api.ErrName, call("a", "x", a)), step(api.ErrName, call("m", "x", a)), step(api.ErrName, call("counter", "x", a)), step(api.ErrName, call("f", "x", a)),
		step(api.ErrArity, call("i", "x")), step(api.ErrArity, call("i", "x", a, a)), step(api.ErrArity, call("i", "", a)), step(api.ErrArity, call("i", "x y", a)), step(api.ErrArity, call("i", "z", z, z)), step(api.ErrArity, call("i", "z z", z)), step(api.ErrArity, call("g", "x", v("b"), tag)),
		step(api.ErrType, call("i", "x", yes)), step(api.ErrType, call("i", "z", yes)), step(api.ErrName, call("i", "x", z)), step(api.ErrOrder, call("i", "x", x)), step(api.ErrOrder, call("i", "y", x), assign("x", a)), step(api.ErrType, call("g", "x p", a, z)), step(api.ErrName, call("g", "x p", z, a)), step(api.ErrName, call("g", "x p", yes, z)), step(api.ErrType, call("g", "x p", yes, yes)), step(api.ErrType, call("g", "x p", yes, constant(api.TEnum+1, 0))),
		step(api.ErrName, call("i", "z", a)), step(api.ErrName, call("i", "a", a)), step(api.ErrName, call("i", "m", a)), step(api.ErrTwice, call("i", "o", a)), step(api.ErrType, call("i", "p", a)), step(api.ErrTwice, call("g", "x x", yes, tag)), step(api.ErrType, call("g", "x y", yes, tag)), step(api.ErrType, call("g", "p z", yes, tag)), step(api.ErrName, call("g", "z p", yes, tag)), step(api.ErrTwice, call("g", "o z", yes, tag)), step(api.ErrName, call("g", "x z", yes, tag)), step(api.ErrTwice, assign("p", yes), call("g", "x p", yes, tag)),
		// SReset
		step(api.ErrName, reset("z")), step(api.ErrName, reset("a")), step(api.ErrName, reset("m")), step(api.ErrName, reset("counter")), step(api.ErrName, reset("")),
		// in order
		step(api.ErrName, reset("z"), assign("x", yes)), step(api.ErrType, assign("x", yes), reset("z")), step(api.ErrType, reset("i"), by("b", nil, nil), assign("x", yes), api.Stmt{}),
	})
}

// TestSpoilt is P22.1 for right object code with one change anywhere.
func TestSpoilt(t *testing.T) {
	x, y := assign("x", op(api.OpAdd, v("a"), state("m"))), either(v("b"), v("x"), number(2))
	o := objects(counter(), pairClass(), wide(
		by("b", seq(x), seq(assign("x", v("a")), by("c", nil, seq(store("m", y))))), call("g", "y q", v("b"), v("e")), byTag("e", nil, seq(reset("i")), seq(call("j", "", v("y")))), store("k", v("q"))))
	inner := &o.Classes[2].Step[3].Branches[2][0]
	inner.Outs = []string{"z"}
	o.Classes[2].Locals = append(o.Classes[2].Locals, decls("z:i")...)
	expectCheck(t, "the object code", o, api.OK)
	errors := map[api.Errno]int{}
	spoil(reflect.ValueOf(&o).Elem(), func() {
		e := Check(o)
		errors[e]++
		if want := refCheck(o); e != want {
			t.Errorf("%v: Check returns %d, want %d", o, int(e), int(want))
		}
	})
	for _, e := range []api.Errno{api.OK, api.ErrForm, api.ErrType, api.ErrName, api.ErrTwice, api.ErrArity, api.ErrOrder} {
		if errors[e] == 0 {
			t.Errorf("the errors are %v", errors)
		}
	}
}
