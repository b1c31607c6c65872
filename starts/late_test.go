package starts

import (
	"math"
	"slices"
	"strings"
	"testing"

	"synchrony/api"
	"synchrony/shape"
)

// The tests of Late are P13.2.

func TestLateExamples(t *testing.T) {
	text := func(vars, eqs string) string {
		return "node f(a: int) returns (out: int) var " + vars + ": int; let out = a; " + eqs + " tel"
	}
	for _, c := range []struct {
		vars, eqs string
		late      []string
	}{
		{"x", "x = 0 -> pre x + 1;", nil},
		{"x: int; y: int; z", "x = a; y = pre x; z = 1 -> y + 1;", []string{"y"}},
		{"x: int; y: int; z", "z = x; x = y; y = pre a;", []string{"x", "y", "z"}},
		{"x: int; y: int; z", "z = pre a; y = z; x = y;", []string{"x", "y", "z"}},
		{"x: int; y: int; z", "z = pre a; y = 0 fby z; x = y;", []string{"z"}},
		{"x: int; y", "x = y; y = x;", nil},
		{"x", "x = x;", nil},
		{"x", "x = -x + x;", nil},
		{"x: int; y", "x = if a > 0 then y else x; y = x;", nil},
		{"x: int; y", "x = if a > 0 then y else pre a; y = x;", []string{"x", "y"}},
		{"x: int; y: int; z", "x = y; y = x + z; z = pre z;", []string{"x", "y", "z"}},
		{"x: int; y: int; z", "x = y; y = x; z = pre y;", []string{"z"}},
	} {
		expectLate(t, c.eqs, read(t, text(c.vars, c.eqs)), 0, c.late, api.OK)
	}
	p := read(t, fullText)
	for i, names := range [][]string{nil, {"lateA"}, {"lateM", "lateK", "lateH", "lateU", "lateV", "lateW"}, nil} {
		expectLate(t, "the full program", p, i, names, api.OK)
	}
	if !shape.Same(p, read(t, fullText)) {
		t.Error("the program became another one")
	}
}

// TestLateOrder: outputs come before locals, in the order of the declarations and not of the equations.
func TestLateOrder(t *testing.T) {
	p := read(t, "node f(a: int) returns (z: int; b: int; y: int) var x: int; c: int; w: int; let w = x; c = a; x = y; b = a; y = z; z = pre a; tel")
	expectLate(t, "all in reverse order", p, 0, []string{"z", "y", "x", "w"}, api.OK)
}

// TestLateCalls: a variable that is defined by a call is not late, whatever the arguments are.
func TestLateCalls(t *testing.T) {
	p := read(t, "node f(a: int) returns (x: int; y: int) let x = pre a; y = x; tel node g(a: int) returns (x: int) let x = pre a; tel "+
		"node h(a: int) returns (x: int; y: int; z: int; l: int) let l = pre a; (x, y) = f(l) every (pre a > 0); z = g(l); tel")
	expectLate(t, "the called node", p, 0, []string{"x", "y"}, api.OK)
	expectLate(t, "a node with calls", p, 2, []string{"l"}, api.OK)
}

// TestLateContexts has all kinds of expressions; also the variables of programs that Check rejects are late or not.
func TestLateContexts(t *testing.T) {
	for _, c := range contexts() {
		for _, part := range []struct {
			text string
			late bool
		}{{"(pre a)", true}, {"(pre pre a)", true}, {"m", true}, {"k", true}, {"a", false}, {misuse, false}, {"(0 fby pre a)", false}} {
			e := strings.ReplaceAll(c.text, "#", part.text)
			p := read(t, "type E = P | Q; node sub(a: int; b: bool) returns (s: int) let s = a; tel node f(a: int; c: bool; e: E) returns (x: int) var k: int; m: int; let k = m; m = pre a; x = "+e+"; tel")
			names := []string{"k", "m"}
			if c.late && part.late {
				names = []string{"x", "k", "m"}
			}
			expectLate(t, e, p, 1, names, api.OK)
			expectOf(t, e, p, 1, p.Nodes[1].Eqs[2].Right, c.late && part.late, api.OK)
		}
	}
}

// TestLateErrors: a program with automata comes first, then the errors of clocks.Check, then a node that there is not.
func TestLateErrors(t *testing.T) {
	check := func(what string, p api.Program, node int, want api.Errno) {
		t.Helper()
		expectLate(t, what, p, node, nil, want)
		expectOf(t, what, p, node, api.Expr{}, false, want)
		expectOf(t, what, p, node, readExpr(t, p, "pre 1"), false, want)
	}
	nodes := []int{-1, 4, 5, math.MinInt, math.MaxInt}
	for _, node := range nodes {
		check("no node", read(t, fullText), node, api.ErrArg)
	}
	check("no nodes", api.Program{}, 0, api.ErrArg)
	for _, node := range append(nodes, 0, 3) {
		check("a wrong clock", read(t, changed(t, fullText, "x = 0 fby a", "x = merge c (true -> a) (false -> 0)", "last(a: int", "last(a: int; c: bool")), node, api.ErrClock)
		check("a wrong type", read(t, changed(t, fullText, "x = 0 fby a", "x = true")), node, api.ErrType)
		check("a wrong name", read(t, changed(t, fullText, "x = 0 fby a", "x = b")), node, api.ErrName)
		p := read(t, changed(t, fullText, "x = 0 fby a", "x = true"))
		p.Nodes[3].Out = nil
		check("no outputs", p, node, api.ErrNone)
		p.Nodes[1].Autos = []api.Auto{{}}
		check("an automaton", p, node, api.ErrArg)
	}
}

// The tests of Of are P13.3.

func TestOf(t *testing.T) {
	p := read(t, "type E = P | Q; node f(a: int) returns (s: int; t: int) let s = a; t = a; tel node main(a: int; c: bool; e: E) returns (y: int) var x: int; u: int when true(c); d: bool when true(c); let x = pre a; y = 0 -> x; u = x when true(c); d = c when true(c); tel")
	for s, late := range map[string]bool{
		"x + 1": true, "0 -> x": false, "x": true, "y": false, "a": false, "u": true, "d": false, "1": false, "Q": false, "'(10)'": false,
		"x = 1": true, "not (c and x > 0)": true, "pre 5": true, "pre x": true, "pre y + a": true, "x -> 0": false, "x fby x": false, "f(x)": false, "f(x) every (x > 0)": false,
		"x when true(c)": true, "x when true(d) when false(d)": true, "y when true(c)": false, "1 when true(c)": false, "u when false(c) + 1": true,
		"merge c (true -> u) (false -> x)": false, "merge e (P -> u) (Q -> pre x)": false, "if x > 0 then a else y": true, "if c then a else y": false, "pre e": true, "P -> pre e": false, // clocks are not checked
		"-(pre a)": true, "pre a when true(c)": true, "merge e (P -> c) (Q -> true) or c": false, "merge e (P -> c) (Q -> true) or pre c": true,
	} {
		expectOf(t, s, p, 1, readExpr(t, p, s), late, api.OK)
	}
	for s, want := range map[string]api.Errno{
		"s": api.ErrName, "x + s": api.ErrName, "pre none": api.ErrName, "x when true(none)": api.ErrName, "main(x, c, e)": api.ErrName, "f()": api.ErrArity, "x + f(x)": api.ErrArity, "pre x + c": api.ErrType, "pre (if x then 0 else 1)": api.ErrType, "pre x when true(e)": api.ErrType,
	} {
		expectOf(t, s, p, 1, readExpr(t, p, s), false, want)
	}
	deep := readExpr(t, p, "x")
	for range api.MaxDepth - 1 {
		deep = api.Expr{Kind: api.EOp, Op: api.OpNeg, Args: []api.Expr{deep}}
	}
	expectOf(t, "a deep expression", p, 1, deep, true, api.OK)
	deep = api.Expr{Kind: api.EPre, Args: []api.Expr{deep}}
	expectOf(t, "an expression that is too deep", p, 1, deep, false, api.ErrLimit)
	expectOf(t, "no expression", p, 1, api.Expr{}, false, api.ErrForm)
	expectOf(t, "a delay of nothing", p, 1, api.Expr{Kind: api.EPre}, false, api.ErrForm)
	expectOf(t, "a memory", p, 1, api.Expr{Kind: api.EState, Name: "x"}, false, api.ErrForm)
	expectOf(t, "a value that there is not", p, 1, api.Expr{Kind: api.EPre, Args: []api.Expr{{Kind: api.EConst, T: api.TEnum, V: 2}}}, false, api.ErrRange)
	expectOf(t, "a type that there is not", p, 1, api.Expr{Kind: api.EPre, Args: []api.Expr{{Kind: api.EConst, T: api.TEnum + 1}}}, false, api.ErrType)
}

// TestOfRightSides: a variable that is not defined by a call is late if its right side is.
func TestOfRightSides(t *testing.T) {
	p := read(t, fullText)
	for i, n := range p.Nodes {
		names, _ := Late(p, i)
		for _, x := range n.Eqs {
			expectOf(t, "the right side of "+x.Left[0], p, i, x.Right, slices.Contains(names, x.Left[0]), api.OK)
		}
	}
}
