package show

import (
	"math"
	"math/rand"
	"reflect"
	"slices"
	"strings"
	"testing"

	"synchrony/api"
	"synchrony/expr"
	"synchrony/parse"
	"synchrony/shape"
)

// The tests of Expr are P9.2.

func TestExprExamples(t *testing.T) {
	a := variable("a")
	expectExpr(t, apply(api.OpAdd, number(1), apply(api.OpMul, a, number(-2))), "1 + (a * (-2))")
	expectExpr(t, apply(api.OpNot, a), "not a")
}

// operand is an expression with its text, and with its text as an operand.
type operand struct {
	e             api.Expr
	text, bracket string
}

// operands has each kind of expressions.
func operands() []operand {
	a, b, c := variable("a"), variable("b"), variable("c")
	bare := func(e api.Expr, s string) operand { return operand{e, s, s} }
	bracketed := func(e api.Expr, s string) operand { return operand{e, s, "(" + s + ")"} }
	return []operand{
		bare(a, "a"),
		bare(variable("x_1"), "x_1"),
		bare(variable("Red"), "Red"),
		bare(periodic("1(01)"), "'1(01)'"),
		bare(constant(api.TBool, 0), "false"),
		bare(constant(api.TBool, 1), "true"),
		bare(constant(light, 0), "Red"),
		bare(constant(light, 2), "Amber"),
		bare(constant(only, 0), "One"),
		bare(constant(again, 1), "Red"),
		bare(number(0), "0"),
		bare(number(1), "1"),
		bare(number(32767), "32767"),
		bracketed(number(-1), "-1"),
		bracketed(number(-32768), "-32768"),
		bare(call("f"), "f()"),
		bare(call("f", a), "f(a)"),
		bare(call("f", a, b, c), "f(a, b, c)"),
		bare(every("f", a), "f() every a"),
		bare(every("f", a, b, c), "f(a, b) every c"),
		bare(every("f", every("g", a)), "f() every g() every a"),
		bracketed(apply(api.OpNot, a), "not a"),
		bracketed(apply(api.OpNeg, a), "-a"),
		bracketed(apply(api.OpNeg, number(5)), "-(5)"),
		bracketed(apply(api.OpNeg, number(0)), "-(0)"),
		bracketed(apply(api.OpNeg, number(-5)), "-(-5)"),
		bracketed(apply(api.OpNeg, constant(light, 1)), "-Green"),
		bracketed(apply(api.OpNeg, apply(api.OpNeg, a)), "-(-a)"),
		bracketed(apply(api.OpAnd, a, b), "a and b"),
		bracketed(apply(api.OpOr, a, b), "a or b"),
		bracketed(apply(api.OpXor, a, b), "a xor b"),
		bracketed(apply(api.OpAdd, a, b), "a + b"),
		bracketed(apply(api.OpSub, a, b), "a - b"),
		bracketed(apply(api.OpMul, a, b), "a * b"),
		bracketed(apply(api.OpDiv, a, b), "a / b"),
		bracketed(apply(api.OpMod, a, b), "a mod b"),
		bracketed(apply(api.OpEq, a, b), "a = b"),
		bracketed(apply(api.OpNe, a, b), "a <> b"),
		bracketed(apply(api.OpLt, a, b), "a < b"),
		bracketed(apply(api.OpLe, a, b), "a <= b"),
		bracketed(apply(api.OpGt, a, b), "a > b"),
		bracketed(apply(api.OpGe, a, b), "a >= b"),
		bracketed(with(api.EIf, c, a, b), "if c then a else b"),
		bracketed(with(api.EPre, a), "pre a"),
		bracketed(with(api.EArrow, a, b), "a -> b"),
		bracketed(with(api.EFby, a, b), "a fby b"),
		bracketed(when(a, "c", api.TBool, 1), "a when true(c)"),
		bracketed(when(a, "c", api.TBool, 0), "a when false(c)"),
		bracketed(when(a, "l", light, 2), "a when Amber(l)"),
		bracketed(merge("c", api.TBool, a, b), "merge c (true -> b) (false -> a)"),
		bracketed(merge("l", light, a, b, c), "merge l (Red -> a) (Green -> b) (Amber -> c)"),
		bracketed(merge("l", only, a), "merge l (One -> a)"),
		bracketed(merge("l", again, a, b), "merge l (Green -> a) (Red -> b)"),
	}
}

// TestExprOperands: each kind of expressions in each place of another one, as an operand or as a whole.
func TestExprOperands(t *testing.T) {
	a, b, c := variable("a"), variable("b"), variable("c")
	for _, x := range operands() {
		e := x.e
		expectExpr(t, e, x.text)
		expectExpr(t, apply(api.OpNot, e), "not "+x.bracket)
		if e.Kind != api.EConst || e.T != api.TInt {
			expectExpr(t, apply(api.OpNeg, e), "-"+x.bracket)
		} else {
			expectExpr(t, apply(api.OpNeg, e), "-("+x.text+")")
		}
		for i, s := range strings.Fields("and or xor + - * / mod = <> < <= > >=") {
			expectExpr(t, apply(api.OpAnd+i, e, a), x.bracket+" "+s+" a")
			expectExpr(t, apply(api.OpAnd+i, a, e), "a "+s+" "+x.bracket)
		}
		expectExpr(t, with(api.EIf, e, a, b), "if "+x.text+" then a else b")
		expectExpr(t, with(api.EIf, c, e, b), "if c then "+x.text+" else b")
		expectExpr(t, with(api.EIf, c, a, e), "if c then a else "+x.text)
		expectExpr(t, with(api.EPre, e), "pre "+x.bracket)
		expectExpr(t, with(api.EArrow, e, a), x.bracket+" -> a")
		expectExpr(t, with(api.EArrow, a, e), "a -> "+x.bracket)
		expectExpr(t, with(api.EFby, e, a), x.bracket+" fby a")
		expectExpr(t, with(api.EFby, a, e), "a fby "+x.bracket)
		expectExpr(t, when(e, "c", api.TBool, 1), x.bracket+" when true(c)")
		expectExpr(t, merge("c", api.TBool, e, a), "merge c (true -> a) (false -> "+x.text+")")
		expectExpr(t, merge("c", api.TBool, a, e), "merge c (true -> "+x.text+") (false -> a)")
		expectExpr(t, merge("l", light, a, e, b), "merge l (Red -> a) (Green -> "+x.text+") (Amber -> b)")
		expectExpr(t, call("f", e), "f("+x.text+")")
		expectExpr(t, call("f", a, e, e), "f(a, "+x.text+", "+x.text+")")
		expectExpr(t, every("f", e, a), "f("+x.text+") every a")
		expectExpr(t, every("f", a, e), "f(a) every "+x.bracket)
		expectExpr(t, every("f", e), "f() every "+x.bracket)
	}
}

// TestExprErrors: the errors are those of shape.Expr, without a text.
func TestExprErrors(t *testing.T) {
	a := variable("a")
	deep := a
	for range api.MaxDepth {
		deep = with(api.EPre, deep)
	}
	refuseExpr(t, enums(), api.Expr{}, api.ErrForm)
	refuseExpr(t, enums(), api.Expr{Kind: api.EState, Name: "a"}, api.ErrForm)
	refuseExpr(t, enums(), apply(api.OpAdd, a), api.ErrForm)
	refuseExpr(t, enums(), apply(17, a, a), api.ErrForm)
	refuseExpr(t, enums(), periodic("1(2)"), api.ErrForm)
	refuseExpr(t, enums(), number(32768), api.ErrForm)
	refuseExpr(t, enums(), when(a, "c", api.TInt, 1), api.ErrForm)
	refuseExpr(t, enums(), variable("if"), api.ErrName)
	refuseExpr(t, enums(), call("f", a, variable("")), api.ErrName)
	refuseExpr(t, enums(), constant(again+1, 0), api.ErrType)
	refuseExpr(t, enums(), merge("l", none, a), api.ErrType)
	refuseExpr(t, nil, when(a, "l", light, 1), api.ErrType)
	refuseExpr(t, enums(), constant(light, 3), api.ErrRange)
	refuseExpr(t, enums(), merge("l", light, a, a), api.ErrArity)
	refuseExpr(t, enums(), deep, api.ErrLimit)
	refuseExpr(t, enums(), call("f", slices.Repeat([]api.Expr{a}, 65)...), api.ErrLimit)
	refuseExpr(t, enums(), with(api.EArrow, merge("l", light, a), variable("if")), api.ErrName)
	expectExpr(t, deep.Args[0], strings.Repeat("pre (", 30)+"pre a"+strings.Repeat(")", 30))
}

// maker makes expressions with the most of the given depth.
type maker struct {
	r *rand.Rand
}

func (m maker) name() string { return []string{"a", "b", "x_1", "Light", "f"}[m.r.Intn(5)] }

// tag returns a type and a value whose tag no earlier enumeration has.
func (m maker) tag() (int, int) {
	t := []int{api.TBool, light, only}[m.r.Intn(3)]
	return t, m.r.Intn(map[int]int{api.TBool: 2, light: 3, only: 1}[t])
}

func (m maker) args(n, depth int) []api.Expr {
	var l []api.Expr
	for range n {
		l = append(l, m.expr(1+m.r.Intn(depth-1)))
	}
	return l
}

func (m maker) expr(depth int) api.Expr {
	t, v := m.tag()
	if depth == 1 {
		return []api.Expr{variable(m.name()), constant(t, v), number(m.r.Intn(65536) - 32768), number(m.r.Intn(3) - 1), periodic("(10)"), call("g")}[m.r.Intn(6)]
	}
	switch m.r.Intn(10) {
	case 0:
		return with(api.EIf, m.args(3, depth)...)
	case 1:
		return with(api.EPre, m.args(1, depth)...)
	case 2:
		return with(api.EArrow, m.args(2, depth)...)
	case 3:
		return with(api.EFby, m.args(2, depth)...)
	case 4:
		return when(m.args(1, depth)[0], m.name(), t, v)
	case 5:
		return merge(m.name(), t, m.args(map[int]int{api.TBool: 2, light: 3, only: 1}[t], depth)...)
	case 6:
		return call(m.name(), m.args(m.r.Intn(4), depth)...)
	case 7:
		return every(m.name(), m.args(1+m.r.Intn(3), depth)...)
	case 8:
		return apply(api.OpNot+m.r.Intn(2), m.args(1, depth)...)
	}
	return apply(api.OpAnd+m.r.Intn(14), m.args(2, depth)...)
}

// TestExprIsRead: the text of an expression is read as that expression, unless a name in it is that of a tag.
func TestExprIsRead(t *testing.T) {
	m := maker{rand.New(rand.NewSource(9))}
	for i := range 20000 {
		e := m.expr(1 + i%6)
		if expr.Size(e) > api.MaxSize {
			continue
		}
		before := deepCopy(e)
		s, err := Expr(enums(), e)
		if !reflect.DeepEqual(e, before) {
			t.Fatalf("%v became %v", before, e)
		}
		x, at, err2 := parse.Expr(enums(), s)
		if err != api.OK || err2 != api.OK || !expr.Same(e, x) {
			t.Fatalf("Expr(%v) = %q, %d, which is %v, %d at %d", e, s, int(err), x, int(err2), at)
		}
	}
}

// TestExprOfAny: whatever shape.Expr returns is returned.
func TestExprOfAny(t *testing.T) {
	for kind := -1; kind <= 13; kind++ {
		for x := -1; x <= again+1; x++ {
			for v := -1; v <= 3; v++ {
				for n := range 4 {
					for _, name := range []string{"", "x", "(1)", "else"} {
						e := api.Expr{Kind: kind, T: x, V: v, Name: name, Args: slices.Repeat([]api.Expr{variable("a")}, n)}
						want := shape.Expr(enums(), e)
						if s, err := Expr(enums(), e); err != want || (s == "") != (want != api.OK) {
							t.Errorf("Expr(%v) = %q, %d, want %d", e, s, int(err), int(want))
						}
					}
				}
			}
		}
	}
}

// The tests of Clock are P9.3.

func expectClock(t *testing.T, l []api.Enum, ck []api.On, s string, e api.Errno) {
	t.Helper()
	before := deepCopy(ck)
	if g, err := Clock(l, ck); g != s || err != e {
		t.Errorf("Clock(%v) = %q, %d, want %q, %d", ck, g, int(err), s, int(e))
	}
	if !reflect.DeepEqual(ck, before) {
		t.Errorf("%v became %v", before, ck)
	}
}

func TestClock(t *testing.T) {
	on := func(name string, t, tag int) api.On { return api.On{Name: name, T: t, Tag: tag} }
	expectClock(t, nil, []api.On{on("a", api.TBool, 1), on("b", api.TInt, 0)}, "when true(a) when 0(b)", api.OK)
	expectClock(t, nil, nil, "", api.OK)
	expectClock(t, enums(), []api.On{}, "", api.OK)
	expectClock(t, nil, []api.On{on("a", api.TBool, 0)}, "when false(a)", api.OK)
	expectClock(t, nil, []api.On{on("a", api.TInt, -32768), on("a", api.TInt, 32767)}, "when -32768(a) when 32767(a)", api.OK)
	expectClock(t, enums(), []api.On{on("l", light, 2), on("o", only, 0), on("g", again, 0)}, "when Amber(l) when One(o) when Green(g)", api.OK)
	expectClock(t, enums(), []api.On{on("", light, 0), on("if", light, 1), on("1 x)", api.TBool, 1)}, "when Red() when Green(if) when true(1 x))", api.OK)
	expectClock(t, []api.Enum{{Tags: []string{"", "not a tag"}}}, []api.On{on("a", api.TEnum, 0), on("a", api.TEnum, 1)}, "when (a) when not a tag(a)", api.OK)
	many := slices.Repeat([]api.On{on("a", api.TBool, 1)}, 1000)
	expectClock(t, nil, many, strings.TrimSuffix(strings.Repeat("when true(a) ", 1000), " "), api.OK)
	expectClock(t, nil, append(many, on("a", api.TBool, 2)), "", api.ErrForm)
}

func TestClockErrors(t *testing.T) {
	right := api.On{Name: "a", T: api.TBool, Tag: 1}
	for _, x := range []api.On{
		{}, {Name: "a"}, {T: -1}, {T: none}, {T: again + 1}, {T: math.MaxInt}, {T: math.MinInt},
		{T: api.TBool, Tag: 2}, {T: api.TBool, Tag: -1}, {T: api.TInt, Tag: -32769}, {T: api.TInt, Tag: 32768},
		{T: light, Tag: 3}, {T: light, Tag: -1}, {T: only, Tag: 1}, {T: again, Tag: 2}, {T: light, Tag: math.MinInt},
	} {
		for _, ck := range [][]api.On{{x}, {x, right}, {right, x}, {right, right, x, right, x}} {
			expectClock(t, enums(), ck, "", api.ErrForm)
		}
	}
	expectClock(t, nil, []api.On{{Name: "l", T: light}}, "", api.ErrForm)
}
