package types

import (
	"math"
	"reflect"
	"strconv"
	"testing"

	"synchrony/api"
	"synchrony/shape"
)

// ofText is a program in whose node main all types occur. Red is a value of TEnum, On of TEnum + 1.
const ofText = `
type Light = Red | Green | Amber;
type Mode = On;
node one(a: int; b: bool) returns (x: int) let x = a; tel
node two(a: int; l: Light) returns (x: int; y: Light) let x = a; y = l; tel
node zero() returns (x: Mode) let x = On; tel
node main(a: int; b: bool; l: Light; m: Mode) returns (x: int; y: bool)
  var u: int; v: Light; w: Mode;
let x = a; y = b; u = a; v = l; w = m; tel
node later() returns (x: int) let x = 0; tel
`

const (
	light = api.TEnum
	mode  = api.TEnum + 1
)

// TestOf has the results and the errors of each kind of expression, on which P11.1 depends.
func TestOf(t *testing.T) {
	p := read(t, ofText)
	for _, c := range []struct {
		text  string
		types []int
		want  api.Errno
	}{
		{"-5", []int{api.TInt}, api.OK}, {"true", []int{api.TBool}, api.OK}, {"Amber", []int{light}, api.OK}, {"On", []int{mode}, api.OK},
		{"a", []int{api.TInt}, api.OK}, {"b", []int{api.TBool}, api.OK}, {"l", []int{light}, api.OK}, {"m", []int{mode}, api.OK},
		{"x", []int{api.TInt}, api.OK}, {"y", []int{api.TBool}, api.OK}, {"u", []int{api.TInt}, api.OK}, {"v", []int{light}, api.OK}, {"w", []int{mode}, api.OK},
		{"none", nil, api.ErrName}, {"Light", nil, api.ErrName}, {"one", nil, api.ErrName},

		{"not b", []int{api.TBool}, api.OK}, {"not a", nil, api.ErrType}, {"-u", []int{api.TInt}, api.OK}, {"-y", nil, api.ErrType},
		{"b xor y", []int{api.TBool}, api.OK}, {"b or a", nil, api.ErrType}, {"l and b", nil, api.ErrType},
		{"a mod u", []int{api.TInt}, api.OK}, {"a * v", nil, api.ErrType}, {"b / 2", nil, api.ErrType},
		{"a = u", []int{api.TBool}, api.OK}, {"v <> Red", []int{api.TBool}, api.OK}, {"l = m", nil, api.ErrType}, {"b = 1", nil, api.ErrType},
		{"a <= 3", []int{api.TBool}, api.OK}, {"b > y", nil, api.ErrType}, {"Red < Green", nil, api.ErrType}, {"m >= m", nil, api.ErrType},

		{"if b then a else 3", []int{api.TInt}, api.OK}, {"if b then l else v", []int{light}, api.OK},
		{"if a then a else 3", nil, api.ErrType}, {"if l then b else y", nil, api.ErrType}, {"if b then a else b", nil, api.ErrType}, {"if b then l else m", nil, api.ErrType}, {"if b then b else a", nil, api.ErrType},
		{"pre m", []int{mode}, api.OK}, {"pre pre b", []int{api.TBool}, api.OK},
		{"l -> Red", []int{light}, api.OK}, {"l -> On", nil, api.ErrType}, {"0 -> b", nil, api.ErrType},
		{"b fby y", []int{api.TBool}, api.OK}, {"b fby x", nil, api.ErrType}, {"x fby m", nil, api.ErrType},
		{"'(0)'", []int{api.TBool}, api.OK}, {"'01(1)' and b", []int{api.TBool}, api.OK}, {"'(1)' + 1", nil, api.ErrType},

		{"a when true(b)", []int{api.TInt}, api.OK}, {"b when Green(l)", []int{api.TBool}, api.OK}, {"l when On(w)", []int{light}, api.OK},
		{"a when true(a)", nil, api.ErrType}, {"a when true(l)", nil, api.ErrType}, {"a when Red(m)", nil, api.ErrType}, {"a when Red(b)", nil, api.ErrType}, {"a when Red(none)", nil, api.ErrName},
		{"merge b (true -> l) (false -> Red)", []int{light}, api.OK}, {"merge v (Red -> b) (Green -> true) (Amber -> y)", []int{api.TBool}, api.OK}, {"merge w (On -> 7)", []int{api.TInt}, api.OK},
		{"merge b (true -> l) (false -> 1)", nil, api.ErrType}, {"merge a (true -> 1) (false -> 1)", nil, api.ErrType}, {"merge l (true -> 1) (false -> 1)", nil, api.ErrType},
		{"merge l (Red -> 1) (Green -> 1) (Amber -> b)", nil, api.ErrType}, {"merge l (Red -> b) (Green -> 1) (Amber -> b)", nil, api.ErrType}, {"merge l (On -> 1)", nil, api.ErrType},
		{"merge none (On -> 1)", nil, api.ErrName}, {"merge none (true -> 1) (false -> b)", nil, api.ErrName},

		{"one(a, b)", []int{api.TInt}, api.OK}, {"two(a, l)", []int{api.TInt, light}, api.OK}, {"zero()", []int{mode}, api.OK},
		{"one(a, b) every b", []int{api.TInt}, api.OK}, {"two(a, l) every b", []int{api.TInt, light}, api.OK}, {"zero() every y", []int{mode}, api.OK},
		{"none(a)", nil, api.ErrName}, {"main(a, b, l, m)", nil, api.ErrName}, {"later()", nil, api.ErrName}, {"a()", nil, api.ErrName},
		{"one(a)", nil, api.ErrArity}, {"one(a, b, b)", nil, api.ErrArity}, {"one(a) every b", nil, api.ErrArity}, {"one(a, b, b) every b", nil, api.ErrArity}, {"zero(b)", nil, api.ErrArity}, {"two()", nil, api.ErrArity},
		{"one(b, a)", nil, api.ErrType}, {"one(a, a)", nil, api.ErrType}, {"two(a, m)", nil, api.ErrType}, {"one(a, b) every a", nil, api.ErrType}, {"one(a, b) every l", nil, api.ErrType}, {"zero() every m", nil, api.ErrType}, {"one(a, a) every b", nil, api.ErrType},
		{"one(one(a, b), y)", []int{api.TInt}, api.OK}, {"pre zero()", []int{mode}, api.OK}, {"zero() = On", []int{api.TBool}, api.OK}, {"zero() = Red", nil, api.ErrType},
		{"pre two(a, l)", nil, api.ErrArity}, {"two(a, l) + 1", nil, api.ErrArity}, {"one(two(a, l))", nil, api.ErrArity}, {"two(a, l) when true(b)", nil, api.ErrArity}, {"zero() every two(a, l)", nil, api.ErrArity}, {"merge m (On -> two(a, l))", nil, api.ErrArity}, {"two(a, l) every two(a, l)", nil, api.ErrArity},
	} {
		expectOf(t, c.text, p, 3, readExpr(t, p, c.text), c.types, c.want)
	}
}

// TestOfOrder has several errors in one expression: the first one in postorder, and of one expression in the order of the table, is returned.
func TestOfOrder(t *testing.T) {
	p := read(t, ofText)
	for _, c := range []struct {
		text string
		want api.Errno
	}{
		{"(not a) + none", api.ErrType}, {"none + (not a)", api.ErrName}, {"pre two(a, l) + none", api.ErrArity},
		{"(a and none) or b", api.ErrName}, {"if a then none else b", api.ErrName}, {"if a then b else none", api.ErrName}, {"(a -> b) fby none", api.ErrType},
		{"(a and b) when true(none)", api.ErrType}, {"none when true(a)", api.ErrName}, {"two(a, l) when true(none)", api.ErrArity}, {"merge none (true -> a and b) (false -> 1)", api.ErrType}, {"merge none (true -> 1) (false -> two(1, l))", api.ErrArity}, {"merge a (true -> 1) (false -> none)", api.ErrName},
		{"merge b (true -> none) (false -> not a)", api.ErrType}, // the branch of false is the argument 0
		{"none(not a)", api.ErrType}, {"none(two(a, l))", api.ErrArity}, {"later(none, -b)", api.ErrName}, {"one(-b)", api.ErrType}, {"one(none)", api.ErrName}, {"zero() every (not 1)", api.ErrType}, {"one(b, a, none)", api.ErrName},
		{"one(b)", api.ErrArity}, {"zero(1) every a", api.ErrArity}, {"none(a) every a", api.ErrName}, {"none() + 1", api.ErrName},
		{"two(l, a)", api.ErrType}, {"pre two(l, a)", api.ErrArity}, {"pre (two(a, l) every a)", api.ErrArity}, {"two(l, a) + none", api.ErrArity}, {"none + two(l, a)", api.ErrName}, {"two(l)", api.ErrArity},
	} {
		expectOf(t, c.text, p, 3, readExpr(t, p, c.text), nil, c.want)
	}
}

// TestOfNodes: calls are of the nodes before the one that contains the expression, the first ones with their names.
func TestOfNodes(t *testing.T) {
	n := func(name string, t int) api.Node { return api.Node{Name: name, Out: decls(t, "x")} }
	p := api.Program{Nodes: []api.Node{n("f", api.TInt), n("g", api.TBool), n("f", api.TBool), n("h", api.TInt), n("g", 77)}}
	for _, c := range []struct {
		node int
		name string
		t    int
	}{
		{0, "f", 0}, {1, "f", api.TInt}, {2, "f", api.TInt}, {3, "f", api.TInt}, {4, "f", api.TInt},
		{0, "g", 0}, {1, "g", 0}, {2, "g", api.TBool}, {3, "g", api.TBool}, {4, "g", api.TBool},
		{2, "h", 0}, {3, "h", 0}, {4, "h", api.TInt}, {4, "k", 0},
	} {
		if what := c.name + " in " + strconv.Itoa(c.node); c.t == 0 {
			expectOf(t, what, p, c.node, call(c.name), nil, api.ErrName)
		} else {
			expectOf(t, what, p, c.node, call(c.name), []int{c.t}, api.OK)
		}
	}
}

// TestOfArguments: the error of the node comes first, then that of the shape of the expression, then those of types.
func TestOfArguments(t *testing.T) {
	p := read(t, ofText)
	for _, node := range []int{-1, 5, math.MinInt, math.MaxInt} {
		expectOf(t, "no node", p, node, constant(api.TInt, 0), nil, api.ErrArg)
		expectOf(t, "no node and no kind", p, node, api.Expr{}, nil, api.ErrArg)
	}
	expectOf(t, "no nodes", api.Program{}, 0, constant(api.TInt, 0), nil, api.ErrArg)
	deep := variable("none")
	for range api.MaxDepth {
		deep = with(api.EPre, deep)
	}
	wide := call("none")
	for range api.MaxArgs + 1 {
		wide.Args = append(wide.Args, variable("none"))
	}
	wrong := with(api.EOp, variable("none"), constant(light, 3))
	wrong.Op = api.OpAnd
	for _, c := range []struct {
		e    api.Expr
		want api.Errno
	}{
		{api.Expr{}, api.ErrForm}, {api.Expr{Kind: api.EState, Name: "a"}, api.ErrForm}, {api.Expr{Kind: api.EWord, Name: "2"}, api.ErrForm},
		{variable("if"), api.ErrName}, {deep, api.ErrLimit}, {wide, api.ErrLimit}, {with(api.EIf, variable("a")), api.ErrForm}, {with(api.EPre), api.ErrForm},
		{constant(api.TBool, 2), api.ErrForm}, {constant(light, 3), api.ErrRange}, {constant(mode+1, 0), api.ErrType}, {constant(0, 0), api.ErrForm}, {wrong, api.ErrRange},
		{api.Expr{Kind: api.EMerge, Name: "none", T: light, Args: []api.Expr{variable("none")}}, api.ErrArity},
		{api.Expr{Kind: api.EWhen, Name: "none", T: mode, V: 1, Args: []api.Expr{variable("none")}}, api.ErrRange},
		{call("none", variable("none"), with(api.EFby, variable("a"))), api.ErrForm},
	} {
		if e := shape.Expr(p.Enums, c.e); e != c.want {
			t.Errorf("shape.Expr of %v = %d", c.e, int(e))
		}
		expectOf(t, "a wrong shape", p, 3, c.e, nil, c.want)
	}
	expectOf(t, "a tag of no enumeration", api.Program{Nodes: p.Nodes}, 3, constant(light, 0), nil, api.ErrType)
}

// TestOfMost has the largest and the deepest expressions.
func TestOfMost(t *testing.T) {
	p := read(t, ofText)
	deep := call("one", variable("a"), variable("b"))
	for range api.MaxDepth - 2 {
		deep = operation(api.OpNeg, deep)
	}
	expectOf(t, "a deep expression", p, 3, deep, []int{api.TInt}, api.OK)
	var f api.Node
	e, want := call("f"), []int(nil)
	for i := range 3 * api.MaxPorts {
		f.Out = append(f.Out, api.Decl{Type: 1 + i%7})
		want = append(want, 1+i%7)
	}
	for range api.MaxArgs {
		f.In = append(f.In, api.Decl{Type: api.TInt})
		e.Args = append(e.Args, operation(api.OpAdd, variable("a"), operation(api.OpNeg, operation(api.OpNeg, variable("x")))))
	}
	f.Name = "f"
	p.Nodes[0] = f
	expectOf(t, "a large expression", p, 3, e, want, api.OK)
	e.Args[api.MaxArgs-1].Args[1].Args[0].Args[0].Name = "b"
	expectOf(t, "a large expression with an error", p, 3, e, nil, api.ErrType)
}

// TestOfAny: the program is not checked. The first variable with a name counts, in the order of inputs, outputs and locals; types can be any numbers.
func TestOfAny(t *testing.T) {
	p := api.Program{Nodes: []api.Node{
		{Name: "if", In: decls(9, "a"), Eqs: []api.Eq{{}}},
		{Name: "none", Out: decls(-3, "x", "y")},
		{Name: "main", In: decls(9, "a", "a"), Out: decls(api.TBool, "x", "a"), Locals: decls(-3, "x", "a", "m", "m")},
	}}
	p.Nodes[2].In[1].Type = api.TInt
	p.Nodes[2].Locals[3].Type = api.TInt
	p.Nodes[2].Autos = []api.Auto{{}, {States: []api.State{{Locals: decls(api.TInt, "k")}}}}
	minus := operation(api.OpEq, variable("m"), variable("m"))
	for _, c := range []struct {
		e     api.Expr
		types []int
		want  api.Errno
	}{
		{variable("a"), []int{9}, api.OK}, {variable("x"), []int{api.TBool}, api.OK}, {variable("m"), []int{-3}, api.OK}, {variable("k"), nil, api.ErrName},
		{operation(api.OpEq, variable("a"), variable("a")), []int{api.TBool}, api.OK}, {minus, nil, api.ErrType},
		{with(api.EFby, variable("m"), variable("m")), []int{-3}, api.OK}, {with(api.EIf, variable("x"), variable("m"), variable("a")), nil, api.ErrType},
		{call("none"), []int{-3, -3}, api.OK}, {with(api.EPre, call("none")), nil, api.ErrArity},
		{call("main"), nil, api.ErrName},
	} {
		before := deepCopy(p)
		expectOf(t, "any program", p, 2, c.e, c.types, c.want)
		if !reflect.DeepEqual(p, before) {
			t.Fatal("the program became another one")
		}
	}
	p.Nodes[0].Name = "f"
	expectOf(t, "a call without outputs", p, 2, call("f", variable("a")), nil, api.OK)
	expectOf(t, "an operand without outputs", p, 2, with(api.EPre, call("f", variable("a"))), nil, api.ErrArity)
	expectOf(t, "a wrong argument", p, 2, call("f", variable("x")), nil, api.ErrType)
}

// TestOfMemory: the result is new memory, and the arguments stay as they are.
func TestOfMemory(t *testing.T) {
	p := read(t, ofText)
	e := readExpr(t, p, "two(a, l) every b")
	program, expression := deepCopy(p), deepCopy(e)
	for range 2 {
		l, err := Of(p, 3, e)
		if !reflect.DeepEqual(l, []int{api.TInt, light}) || err != api.OK {
			t.Fatalf("Of = %v, %d", l, int(err))
		}
		clear(l[:cap(l)])
		if !reflect.DeepEqual(p, program) || !reflect.DeepEqual(e, expression) {
			t.Fatal("the arguments became others")
		}
	}
}
