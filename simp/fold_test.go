package simp

import (
	"math/rand"
	"slices"
	"strings"
	"testing"

	"synchrony/api"
	"synchrony/expr"
	"synchrony/parse"
	"synchrony/show"
	"synchrony/value"
)

func enums() []api.Enum { return []api.Enum{{Name: "E", Tags: []string{"P", "Q", "R"}}} }

// expectFold checks P20.1, and P20.7 for Fold.
func expectFold(t *testing.T, e, want api.Expr) {
	t.Helper()
	before := deepCopy(e)
	got := Fold(e)
	if !expr.Same(got, want) {
		t.Errorf("Fold of %v is %v, want %v", e, got, want)
	}
	if !expr.Same(Fold(got), got) || expr.Size(got) > expr.Size(e) {
		t.Errorf("Fold of %v is %v; it is not folded, or larger", e, got)
	}
	if !expr.Same(e, before) {
		t.Errorf("Fold changed %v", before)
	}
	expectNewMemory(t, "Fold", e, got)
}

// TestFold is P20.1: each rule, for expressions that are right.
func TestFold(t *testing.T) {
	for _, s := range []string{
		"(x + 0) * (2 - 1) => x", "not not (b and true) => b", // the examples
		"1 => 1", "x => x", "P => P", "'(10)' => '(10)'",
		"2 + 3 => 5", "32767 + 1 => -32768", "-(5) => -5", "-(-32768) => -32768", "7 / 0 => 0", "7 mod 0 => 7", "-7 / 2 => -3", "300 * 300 => 24464", "2 - 3 => -1",
		"not true => false", "true and false => false", "true or false => true", "true xor true => false",
		"1 < 2 => true", "2 <= 1 => false", "1 > 2 => false", "2 >= 2 => true", "1 = 1 => true", "1 <> 1 => false", "P = Q => false", "P <> Q => true", "true = false => false",
		"1 + 2 * 3 - 4 / 2 => 5", "(1 < 2) and (P = P) => true", "x + (1 + 2) => x + 3", "1 + x + 2 => 1 + x + 2",
		"if true then x else y => x", "if false then x else y => y", "if 1 < 2 then x + 1 else y => x + 1", "if b then x else y => if b then x else y", "if b then x else x => if b then x else x",
		"if b then true else false => b", "if b then false else true => not b", "if b then true else true => if b then true else true", "if b then false else false => if b then false else false",
		"if b then 1 else 0 => if b then 1 else 0", "if not b then false else true => b", "if true then false else true => false", "if not not not b then x else y => if not b then x else y",
		"if b then (1 = 1) else (1 = 2) => b", "if x < y then false else true => not (x < y)", "if (if b then false else true) then false else true => b", "not (if b then false else true) => b",
		"not not b => b", "-(-x) => x", "not not not b => not b", "not (b = c) => not (b = c)", "-(-(-x)) => -x", "-(x - 0) => -x", "not (not b and true) => b",
		"b and true => b", "true and b => b", "b and false => b and false", "false and b => false and b", "b or false => b", "false or b => b", "b or true => b or true", "b xor false => b", "false xor b => b", "b xor true => b xor true", "b and b => b and b",
		"x + 0 => x", "0 + x => x", "x + 1 => x + 1", "x * 1 => x", "1 * x => x", "x * 0 => x * 0", "0 * x => 0 * x", "x - 0 => x", "0 - x => 0 - x", "x - 1 => x - 1", "x / 1 => x", "1 / x => 1 / x", "x / 0 => x / 0", "x mod 1 => x mod 1", "x - x => x - x",
		"b = true => b", "true = b => b", "b = false => b = false", "b <> false => b", "false <> b => b", "b <> true => b <> true", "x = 1 => x = 1", "x <> 0 => x <> 0", "e = Q => e = Q", "e <> P => e <> P", "Q = e => Q = e",
		"1 when true(c) => 1", "P when Q(e) => P", "x when true(c) => x when true(c)", "(1 + 1) when true(c) => 2", "(1 when true(c)) when Q(e) => 1", "(x + 0) when true(c) => x when true(c)", "(1 when true(c)) + 1 => 2",
		"merge c (true -> 1) (false -> 1) => merge c (true -> 1) (false -> 1)", "merge c (true -> 1 + 1) (false -> x + 0) => merge c (true -> 2) (false -> x)", "merge e (P -> not not b) (Q -> b) (R -> b) => merge e (P -> b) (Q -> b) (R -> b)",
		"pre (x + 0) => pre x", "1 fby 1 => 1 fby 1", "(1 + 1) fby (x * 1) => 2 fby x", "1 -> 1 => 1 -> 1", "f(x + 0, 1 + 1) every (b and true) => f(x, 2) every b", "f(not not b) => f(b)",
		"(x - 0) + (y * 1) => x + y", "(b and true) = (true or false) => b", "(0 + 0) + x => x", "x + (1 - 1) => x", "x * (3 - 2) / (2 - 1) => x", "(if b then 0 else 0) + x => (if b then 0 else 0) + x", "if (b = true) and true then true else (1 > 2) => b",
	} {
		before, after, _ := strings.Cut(s, " => ")
		e, at, wrong := parse.Expr(enums(), before)
		want, _, wrongWant := parse.Expr(enums(), after)
		if wrong != api.OK || wrongWant != api.OK {
			t.Fatalf("%s: the errors %d at %d and %d", s, int(wrong), at, int(wrongWant))
		}
		expectFold(t, e, want)
	}
}

// TestFoldAny is P20.1 for expressions that are malformed.
func TestFoldAny(t *testing.T) {
	yes, no, one, zero := constant(api.TBool, 1), constant(api.TBool, 0), number(1), number(0)
	unchanged := func(e api.Expr) [2]api.Expr { return [2]api.Expr{e, e} }
	big := number(1 << 20)
	named := api.Expr{Kind: api.EConst, T: api.TBool, V: 1, Name: "n", Op: 3, Args: []api.Expr{v("x")}}
	for _, c := range [][2]api.Expr{
		unchanged(api.Expr{}), unchanged(with(api.EOp)), unchanged(op(99, yes)), unchanged(op(99, yes, yes)), unchanged(op(api.OpAnd)), unchanged(op(api.OpAnd, yes)), unchanged(op(api.OpAnd, v("b"), yes, yes)),
		unchanged(op(api.OpAdd, v("x"), zero, zero)), unchanged(op(api.OpNot, yes, yes)), unchanged(op(api.OpNot, op(api.OpNot, v("b"), v("c")))), unchanged(op(api.OpNot, op(api.OpNot, v("b")), v("c"))), unchanged(op(api.OpNot, op(api.OpNeg, v("b")))),
		unchanged(op(api.OpNot, with(api.EIf, v("b")))), unchanged(op(api.OpNot, one)), unchanged(op(api.OpNot, constant(api.TBool, 2))), unchanged(op(api.OpAdd, one, yes)), unchanged(op(api.OpAdd, big, one)), unchanged(op(api.OpAdd, v("x"), no)),
		unchanged(op(api.OpAnd, v("b"), one)), unchanged(op(api.OpAnd, one, one)), unchanged(op(api.OpOr, v("b"), zero)), unchanged(op(api.OpEq, v("x"), one)), unchanged(op(api.OpEq, constant(0, 1), constant(0, 1))), unchanged(op(api.OpEq, one, constant(api.TEnum, 1))),
		unchanged(with(api.EIf, yes, v("x"))), unchanged(with(api.EIf, yes)), unchanged(with(api.EIf)), unchanged(with(api.EIf, yes, v("x"), v("y"), v("z"))), unchanged(with(api.EIf, one, v("x"), v("y"))), unchanged(with(api.EIf, constant(api.TBool, 2), v("x"), v("y"))),
		unchanged(with(api.EIf, v("b"), yes, no, no)), unchanged(with(api.EIf, v("b"), one, zero)), unchanged(with(api.EWhen, one, one)), unchanged(with(api.EWhen)), unchanged(with(api.EState, one)), unchanged(with(api.EMerge, one)), unchanged(with(api.EPre, one)),
		{op(api.OpAdd, big, zero), big}, {op(api.OpMul, one, big), big}, {op(api.OpEq, one, yes), one}, {op(api.OpEq, yes, one), one}, {op(api.OpNe, no, big), big}, {op(api.OpEq, big, big), yes}, {op(api.OpEq, constant(99, 5), constant(99, 6)), no},
		{op(api.OpAnd, constant(api.TBool, 2), yes), constant(api.TBool, 2)}, {op(api.OpAnd, yes, yes), yes}, {with(api.EIf, one, yes, no), one}, {with(api.EIf, one, no, yes), op(api.OpNot, one)}, {with(api.EIf, constant(api.TBool, 2), no, yes), op(api.OpNot, constant(api.TBool, 2))},
		{with(api.EOp, op(api.OpAdd, one, one)), with(api.EOp, number(2))}, {with(77, op(api.OpNot, yes)), with(77, no)}, {with(api.EVar, op(api.OpNot, yes)), with(api.EVar, no)}, {with(api.EConst, op(api.OpNot, yes)), with(api.EConst, no)},
		{with(api.EIf, named, v("x"), v("y")), v("x")}, {op(api.OpNot, named), no}, {op(api.OpAnd, v("b"), named), v("b")}, {with(api.EWhen, named), named}, {with(api.EWhen, with(api.EWhen, one)), one}, {with(api.EWhen, with(api.EWhen, one), one), with(api.EWhen, one, one)},
	} {
		expectFold(t, c[0], c[1])
	}
}

// someTree returns any expression, mostly with numbers of arguments that could be right.
func someTree(r *rand.Rand, depth int) api.Expr {
	e := api.Expr{Kind: 1 + r.Intn(4)}
	switch {
	case depth == 0 && r.Intn(9) > 0:
		e.Kind = api.EConst + r.Intn(2)
	case r.Intn(9) == 0:
		e.Kind = r.Intn(14)
	}
	n := 0
	switch e.Kind {
	case api.EConst:
		e.T, e.V = api.TBool+r.Intn(2), r.Intn(2)
		if r.Intn(8) == 0 {
			e.T, e.V = r.Intn(5), []int{-1, 2, 40000}[r.Intn(3)]
		}
	case api.EVar:
		e.Name = []string{"a", "b", "c", ""}[r.Intn(4)]
	case api.EOp:
		e.Op = r.Intn(18)
		n = 2
		if e.Op == api.OpNot || e.Op == api.OpNeg {
			n = 1
		}
	case api.EIf:
		n = 3
	case api.EWhen, api.EMerge:
		e.Name = []string{"a", "b", "c", ""}[r.Intn(4)]
		e.T = api.TBool
		n = e.Kind - api.EWhen + 1
	default:
		n = r.Intn(3)
	}
	if r.Intn(30) == 0 {
		n = r.Intn(4)
	}
	for range n {
		if depth > 0 {
			e.Args = append(e.Args, someTree(r, depth-1))
		}
	}
	return e
}

// TestFoldReference is P20.1 and P20.7 for any expressions.
func TestFoldReference(t *testing.T) {
	r := rand.New(rand.NewSource(1))
	smaller := 0
	for range 60000 {
		e := someTree(r, 1+r.Intn(4))
		want := refFold(e)
		expectFold(t, e, want)
		if expr.Size(want) < expr.Size(e) {
			smaller++
		}
		if t.Failed() {
			return
		}
	}
	if smaller < 8000 {
		t.Errorf("only %d expressions become smaller", smaller)
	}
}

// someTyped returns an expression of a type, with the variables b and c of the type bool, x and y of the type int, and e of the enumeration.
func someTyped(r *rand.Rand, t, depth int) api.Expr {
	if depth == 0 || r.Intn(5) == 0 {
		if r.Intn(2) == 0 {
			return constant(t, r.Intn(2))
		}
		return v([]string{"", "b", "x", "e"}[t])
	}
	one := func(t int) api.Expr { return someTyped(r, t, depth-1) }
	switch k := r.Intn(5); {
	case k == 0:
		return with(api.EIf, one(api.TBool), one(t), one(t))
	case k == 1:
		return api.Expr{Kind: api.EWhen, Name: "c", T: api.TBool, V: 1, Args: []api.Expr{one(t)}}
	case t == api.TBool && k == 2:
		of := 1 + r.Intn(3)
		return op(api.OpEq+r.Intn(2), one(of), one(of))
	case t == api.TBool && k == 3:
		return op(api.OpNot, one(t))
	case t == api.TBool:
		return op(api.OpAnd+r.Intn(3), one(t), one(t))
	case t == api.TInt && k == 2:
		return op(api.OpNeg, one(t))
	case t == api.TInt:
		return op(api.OpAdd+r.Intn(5), one(t), one(t))
	}
	return one(t)
}

// cell returns the cell of an expression that is executed, for the cells of the variables.
func cell(e api.Expr, cells map[string]api.Cell) api.Cell {
	var l []api.Cell
	for _, a := range e.Args {
		l = append(l, cell(a, cells))
	}
	switch e.Kind {
	case api.EConst:
		return api.Cell{Kind: api.Present, V: e.V}
	case api.EVar:
		return cells[e.Name]
	case api.EOp:
		return value.Lift(e.Op, l...)
	case api.EIf:
		if l[0].Kind == api.Undef {
			return l[0]
		}
		return l[2-l[0].V]
	}
	return l[0]
}

// TestFoldCells is P20.7: the cells of an expression stay the same, undefined ones too.
func TestFoldCells(t *testing.T) {
	r := rand.New(rand.NewSource(2))
	for range 20000 {
		e := someTyped(r, 1+r.Intn(3), 4)
		f := Fold(e)
		for _, undefined := range []string{"", "b", "x", "e"} {
			cells := map[string]api.Cell{}
			for i, name := range []string{"b", "x", "e"} {
				cells[name] = api.Cell{Kind: api.Present, V: r.Intn(2 + i)}
				if name == undefined {
					cells[name] = api.Cell{Kind: api.Undef}
				}
			}
			if is, want := cell(f, cells), cell(e, cells); is != want {
				s, _ := show.Expr(enums(), e)
				folded, _ := show.Expr(enums(), f)
				t.Fatalf("%s with %v is %v; folded, %s, it is %v", s, cells, want, folded, is)
			}
		}
		if !slices.Equal(typed(t, f), typed(t, e)) {
			t.Fatalf("%v has another type than %v", f, e)
		}
	}
}

// typed returns the type of an expression.
func typed(t *testing.T, e api.Expr) []int {
	switch e.Kind {
	case api.EConst:
		return []int{e.T}
	case api.EVar:
		return []int{strings.Index(".bxe", e.Name)}
	case api.EOp:
		var l []int
		for _, a := range e.Args {
			l = append(l, typed(t, a)...)
		}
		of, wrong := value.Result(e.Op, l...)
		if wrong != api.OK {
			t.Errorf("%v has no type", e)
		}
		return []int{of}
	case api.EIf:
		return typed(t, e.Args[1])
	}
	return typed(t, e.Args[0])
}
