package clocks

import (
	"math"
	"reflect"
	"slices"
	"testing"

	"synchrony/api"
	"synchrony/shape"
)

// fitsText is a program with variables on clocks of all lengths.
const fitsText = `
type E = P | Q | R;
node f(a: int) returns (x: int) let x = a; tel
node main(a: int; c: bool; e: E) returns (x: int; h: E)
  var y: int when true(c); z: int when false(c); b: bool when true(c); k: E when true(c) when false(b); d: bool when true(c) when false(b) when Q(k);
    m: int when true(c) when false(b) when Q(k) when true(d); n: bool when true(c) when false(b) when Q(k) when true(d); g: E when P(e);
let tel
`

// The clocks of fitsText.
func onQ(name string) api.On { return api.On{Name: name, T: api.TEnum, Tag: 1} }

func clock(n int) []api.On {
	return []api.On{is("c"), isNot("b"), onQ("k"), is("d")}[:n:n]
}

// The tests of Fits are P12.2.

func TestFits(t *testing.T) {
	p := read(t, fitsText)
	for _, c := range []struct {
		text string
		ck   []api.On
		want api.Errno
	}{
		{"a", nil, api.OK}, {"x", nil, api.OK}, {"h", []api.On{}, api.OK}, {"a", clock(1), api.ErrClock}, {"y", nil, api.ErrClock}, {"y", clock(1), api.OK}, {"y", clock(2), api.ErrClock}, {"y", []api.On{isNot("c")}, api.ErrClock}, {"y", []api.On{is("b")}, api.ErrClock},
		{"y", []api.On{{Name: "c", T: api.TEnum, Tag: 1}}, api.ErrClock}, {"z", []api.On{isNot("c")}, api.OK}, {"z", clock(1), api.ErrClock}, {"k", clock(2), api.OK}, {"k", clock(1), api.ErrClock}, {"d", clock(3), api.OK}, {"m", clock(4), api.OK}, {"m", clock(3), api.ErrClock},

		{"a + x", nil, api.OK}, {"a + y", nil, api.ErrClock}, {"y + a", nil, api.ErrClock}, {"y + a", clock(1), api.ErrClock}, {"y + y", clock(1), api.OK}, {"-m", clock(4), api.OK}, {"not d", clock(2), api.ErrClock},
		{"if c then a else x", nil, api.OK}, {"if b then a else x", nil, api.ErrClock}, {"if c then y else x", nil, api.ErrClock}, {"if c then a else z", nil, api.ErrClock}, {"if b then y else 1", clock(1), api.OK},
		{"pre y", clock(1), api.OK}, {"pre y", nil, api.ErrClock}, {"y -> a", clock(1), api.ErrClock}, {"a -> y", clock(1), api.ErrClock}, {"1 -> y", clock(1), api.OK}, {"y fby a", nil, api.ErrClock}, {"a fby y", nil, api.ErrClock}, {"m fby n", clock(4), api.OK},
		{"f(y)", clock(1), api.OK}, {"f(y)", nil, api.ErrClock}, {"f(a, y)", nil, api.ErrClock}, {"f(y, y) every b", clock(1), api.OK}, {"f(y) every c", clock(1), api.ErrClock}, {"none()", clock(3), api.OK}, {"none() every d", clock(3), api.OK}, {"none() every d", clock(4), api.ErrClock},

		{"a when true(c)", clock(1), api.OK}, {"a when true(c)", nil, api.ErrClock}, {"a when false(c)", clock(1), api.ErrClock}, {"a when true(b)", clock(1), api.ErrClock}, {"a when true(c)", clock(2), api.ErrClock}, {"y when true(c)", clock(1), api.ErrClock}, {"a when P(c)", clock(1), api.ErrClock},
		{"y when false(b)", clock(2), api.OK}, {"a when true(c) when false(b)", clock(2), api.OK}, {"a when false(b) when true(c)", clock(2), api.ErrClock}, {"y when false(b)", []api.On{isNot("b")}, api.ErrClock}, {"a when false(b)", []api.On{isNot("b")}, api.ErrClock}, {"y when false(b)", []api.On{isNot("c"), isNot("b")}, api.ErrClock},
		{"5 when true(c)", clock(1), api.OK}, {"5 when true(c)", nil, api.ErrClock}, {"'(1)' when true(c)", clock(1), api.OK}, {"d when true(d)", clock(4), api.OK}, {"5 when true(d) when true(d)", clock(4), api.ErrClock}, {"c when true(c)", clock(1), api.OK},
		{"a when Q(e)", []api.On{onQ("e")}, api.OK}, {"a when P(e)", []api.On{onQ("e")}, api.ErrClock}, {"a when true(e)", []api.On{is("e")}, api.OK}, {"a when true(x)", []api.On{is("x")}, api.OK},

		{"merge c (true -> y) (false -> z)", nil, api.OK}, {"merge c (true -> z) (false -> y)", nil, api.ErrClock}, {"merge c (true -> y) (false -> a)", nil, api.ErrClock}, {"merge c (true -> a) (false -> z)", nil, api.ErrClock}, {"merge c (true -> y) (false -> z)", clock(1), api.ErrClock}, {"merge b (true -> 1) (false -> 1)", nil, api.ErrClock}, {"merge b (true -> 1) (false -> 1)", clock(1), api.OK},
		{"merge e (P -> g) (Q -> 1) (R -> a when R(e))", nil, api.OK}, {"merge e (P -> 1) (Q -> g) (R -> 1)", nil, api.ErrClock}, {"merge k (P -> 1) (Q -> d) (R -> b when false(b) when R(k))", clock(2), api.OK}, {"merge k (P -> d) (Q -> d) (R -> 1)", clock(2), api.ErrClock},
		{"merge c (true -> merge b (true -> 0) (false -> merge k (P -> 1) (Q -> merge d (true -> m) (false -> 2)) (R -> 3))) (false -> z)", nil, api.OK},
		{"merge x (true -> 1) (false -> 2)", nil, api.OK}, {"merge c (P -> 1) (Q -> 2) (R -> 3)", nil, api.OK}, {"merge c (P -> 1) (Q -> y) (R -> 3)", nil, api.ErrClock},
		{"merge n (true -> 1) (false -> 2)", clock(4), api.ErrLimit}, {"merge n (true -> a) (false -> 2)", clock(4), api.ErrLimit}, {"merge d (true -> 1) (false -> 2)", clock(4), api.ErrClock}, {"merge m (P -> 1) (Q -> 1) (R -> 1)", clock(4), api.ErrLimit}, {"merge n (true -> 1) (false -> 2)", clock(3), api.ErrClock}, {"merge d (true -> 1) (false -> 2)", clock(3), api.OK},
		{"m + merge n (true -> 1) (false -> 2)", clock(4), api.ErrLimit}, {"merge n (true -> 1) (false -> 2) + a", clock(4), api.ErrLimit}, {"a + merge n (true -> 1) (false -> 2)", clock(4), api.ErrClock}, {"merge d (true -> merge n (true -> 1) (false -> 2)) (false -> a)", clock(3), api.ErrClock}, {"merge d (true -> merge n (true -> 1) (false -> 2)) (false -> 0)", clock(3), api.ErrLimit},

		{"1", clock(0), api.OK}, {"1", clock(4), api.OK}, {"P", []api.On{{}, {Name: "none", T: 99, Tag: -1}}, api.OK}, {"'(10)'", clock(2), api.OK}, {"1 + pre 2 -> 3", []api.On{{Name: "?"}}, api.OK},
		{"not a", nil, api.OK}, {"a and true", nil, api.OK}, {"f()", nil, api.OK}, // types are not checked
	} {
		e := readExpr(t, p, c.text)
		expectFits(t, c.text, p, 1, e, c.ck, c.want)
	}
}

// five has one sampling more than a clock may have.
func five() []api.On { return append(clock(4), is("n")) }

// TestFitsOrder: the errors of the node, of the shape, of the names, of the length and of the clock come in this order.
func TestFitsOrder(t *testing.T) {
	p := read(t, fitsText)
	wrong := operation(api.OpAdd, variable("none"), constant(api.TEnum, 3))
	for _, node := range []int{-1, 2, math.MinInt, math.MaxInt} {
		expectFits(t, "no node", p, node, constant(api.TInt, 0), nil, api.ErrArg)
		expectFits(t, "no node", p, node, wrong, five(), api.ErrArg)
	}
	expectFits(t, "no nodes", api.Program{}, 0, variable("a"), nil, api.ErrArg)
	expectFits(t, "a wrong shape", p, 1, wrong, five(), api.ErrRange)
	expectFits(t, "a wrong type", api.Program{Nodes: p.Nodes}, 1, constant(api.TEnum, 0), nil, api.ErrType)
	for _, e := range []api.Expr{{}, {Kind: api.EState, Name: "a"}, variable("if"), with(api.EPre), when(api.On{Name: "c", T: api.TInt}, variable("a")), merge("none", api.TEnum, variable("none"))} {
		expectFits(t, "a wrong shape", p, 1, e, five(), shape.Expr(p.Enums, e))
	}
	deep := variable("none")
	for range api.MaxDepth {
		deep = with(api.EPre, deep)
	}
	expectFits(t, "a deep expression", p, 1, deep, nil, api.ErrLimit)
	for _, s := range []string{"none", "y + none", "f(y, none)", "1 when true(none)", "merge none (true -> y) (false -> y)", "merge b (true -> y) (false -> none)"} {
		expectFits(t, s, p, 1, readExpr(t, p, s), nil, api.ErrName)
		expectFits(t, s, p, 1, readExpr(t, p, s), five(), api.ErrName)
	}
	expectFits(t, "a variable of another node", p, 0, variable("y"), nil, api.ErrName)
	for _, s := range []string{"1", "a", "y", "1 when true(n)", "merge n (true -> a) (false -> 1)"} {
		expectFits(t, s, p, 1, readExpr(t, p, s), five(), api.ErrLimit)
		expectFits(t, s, p, 1, readExpr(t, p, s), append(five(), five()...), api.ErrLimit)
	}
}

// TestFitsAny: the program is not checked. The first variable with a name counts, and inputs and outputs are on the base clock.
func TestFitsAny(t *testing.T) {
	decl := func(name string, ck ...api.On) api.Decl { return api.Decl{Name: name, Type: -5, Clock: ck} }
	p := api.Program{Nodes: []api.Node{{}, {
		In:     []api.Decl{decl("a"), decl("b", is("a"))},
		Out:    []api.Decl{decl("x", is("a")), decl("b", is("a"))},
		Locals: []api.Decl{decl("y", is("y")), decl("y"), decl("a", is("a")), decl("x", is("x")), decl("z", five()...), decl("k", api.On{Name: "if", T: -1, Tag: 99})},
		Autos:  []api.Auto{{}},
	}}}
	for _, c := range []struct {
		e    api.Expr
		ck   []api.On
		want api.Errno
	}{
		{variable("a"), nil, api.OK}, {variable("b"), nil, api.OK}, {variable("x"), nil, api.OK}, {variable("x"), []api.On{is("a")}, api.ErrClock},
		{variable("y"), []api.On{is("y")}, api.OK}, {variable("y"), nil, api.ErrClock}, {variable("z"), clock(4), api.ErrClock}, {variable("z"), five(), api.ErrLimit}, {variable("k"), []api.On{{Name: "if", T: -1, Tag: 99}}, api.OK},
		{when(is("y"), variable("y")), []api.On{is("y"), is("y")}, api.OK}, {when(is("y"), variable("y")), []api.On{is("y")}, api.ErrClock}, {when(is("b"), variable("x")), []api.On{is("b")}, api.OK},
		{merge("y", api.TBool, variable("y"), constant(api.TInt, 0)), []api.On{is("y")}, api.ErrClock}, {merge("x", api.TBool, constant(api.TInt, 0), constant(api.TInt, 0)), nil, api.OK},
	} {
		before := deepCopy(p)
		expectFits(t, "any program", p, 1, c.e, c.ck, c.want)
		expectFits(t, "no variables", p, 0, c.e, c.ck, api.ErrName)
		if !reflect.DeepEqual(p, before) {
			t.Fatal("the program became another one")
		}
	}
	expectOf(t, "any program", p, 1, "b", nil, api.OK)
	expectOf(t, "any program", p, 1, "x", nil, api.OK)
	expectOf(t, "any program", p, 1, "a", nil, api.OK)
	expectOf(t, "any program", p, 1, "y", []api.On{is("y")}, api.OK)
	expectOf(t, "any program", p, 1, "z", five(), api.OK)
	expectOf(t, "any program", p, 0, "z", nil, api.ErrName)
}

// TestFitsMemory: the clock that is passed is neither changed nor extended in its own memory.
func TestFitsMemory(t *testing.T) {
	p := read(t, fitsText)
	e := readExpr(t, p, "merge c (true -> merge b (true -> 0) (false -> a when true(c) when false(b))) (false -> z)")
	all := five()
	for n := range 3 {
		for _, x := range []api.Expr{e, e.Args[1], e.Args[1].Args[0]} {
			Fits(p, 1, x, all[:n])
			if !slices.Equal(all, five()) {
				t.Fatalf("the clock became %v", all)
			}
		}
	}
}

// TestOf is P12.3.
func TestOf(t *testing.T) {
	p := read(t, fitsText)
	for name, ck := range map[string][]api.On{
		"a": nil, "c": nil, "e": nil, "x": nil, "h": nil, "y": clock(1), "z": {isNot("c")}, "b": clock(1), "k": clock(2), "d": clock(3), "m": clock(4), "n": clock(4), "g": {{Name: "e", T: api.TEnum}},
	} {
		expectOf(t, "a variable", p, 1, name, ck, api.OK)
		for _, node := range []int{-1, 2, math.MinInt, math.MaxInt} {
			expectOf(t, "no node", p, node, name, nil, api.ErrArg)
		}
	}
	for _, name := range []string{"", "none", "main", "P", "Y"} {
		expectOf(t, "no variable", p, 1, name, nil, api.ErrName)
	}
	expectOf(t, "a variable of another node", p, 0, "y", nil, api.ErrName)
	expectOf(t, "no nodes", api.Program{}, 0, "a", nil, api.ErrArg)
	before := deepCopy(p)
	for range 2 {
		ck, _ := Of(p, 1, "m")
		if !slices.Equal(ck, clock(4)) {
			t.Fatalf("Of m = %v", ck)
		}
		clear(ck[:cap(ck)])
		if !reflect.DeepEqual(p, before) {
			t.Fatal("Of shares memory with the program")
		}
	}
}

// TestSameAndWithin is P12.3.
func TestSameAndWithin(t *testing.T) {
	clocks := [][]api.On{
		nil, clock(1), clock(2), clock(3), five(), {isNot("c")}, {onQ("c")}, {is("")}, {{}}, {{}, {}}, {isNot("b"), is("c")}, {is("c"), is("b")}, {is("c"), {Name: "b", T: api.TInt}}, {is("c"), is("c")},
	}
	within := map[[2]int]bool{{2, 1}: true, {3, 1}: true, {3, 2}: true, {4, 1}: true, {4, 2}: true, {4, 3}: true, {9, 8}: true, {11, 1}: true, {12, 1}: true, {13, 1}: true}
	for i, a := range clocks {
		for j, b := range clocks {
			if Same(a, slices.Clone(b)) != (i == j) {
				t.Errorf("Same of %v and %v", a, b)
			}
			if Within(a, slices.Clone(b)) != (i == j || j == 0 || within[[2]int{i, j}]) {
				t.Errorf("Within of %v and %v", a, b)
			}
		}
	}
	if !Same(nil, []api.On{}) || !Same([]api.On{}, nil) || !Within(nil, []api.On{}) || !Within([]api.On{}, nil) {
		t.Error("empty and nil are different")
	}
}
