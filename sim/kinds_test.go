package sim

import (
	"strconv"
	"testing"

	"synchrony/api"
)

// counter is a node that counts its instants.
const counter = "node n() returns (x: int) let x = 0 fby x + 1; tel "

func TestExamples(t *testing.T) {
	for _, x := range []example{
		{"node f() returns (x: int) let x = pre x + 1; tel", "- - -", "x: ? ? ?"},      // P17.1, P17.2
		{"node f() returns (x: int) let x = 0 -> pre x + 1; tel", "- - -", "x: 0 1 2"}, // P17.2
		{"node count(r: bool) returns (n: int) let n = if r then 0 else (0 fby n) + 1; tel", "0 0 1 0", "n: 1 2 0 1"},
		{"node f(c: bool; a: int) returns (x: int) var y: int when true(c); let y = a when true(c); x = merge c (true -> y) (false -> 0); tel", "1,5 0,7 1,9", "x: 5 0 9; y: 5 . 9"},
		{"node f(c: bool; a: int; b: int) returns (x: int) let x = merge c (true -> a when true(c)) (false -> b when false(c)); tel", "1,5,6 0,7,8", "x: 5 8"}, // DOC.md, 5
		{"node count(r: bool) returns (n: int) let n = if r then 0 else (0 fby n) + 1; tel node f(r: bool) returns (x: int) let x = count(false) every r; tel", "0 0 1 0", "x: 1 2 1 2"},
		{"node f(a: int) returns (x: int) var w: bool; y: int when true(w); let w = '1(01)'; y = a when true(w); x = a; tel", "1 2 3 4 5", "w: 1 0 1 0 1; y: 1 . 3 . 5"}, // DOC.md, 8
	} {
		x.check(t)
	}
}

// The tests of the kinds of expressions are of P17.2, and of P17.3 as far as variables are looked at.

// TestInstantaneous has the kinds that keep nothing.
func TestInstantaneous(t *testing.T) {
	const head = "type E = P | Q | R; node f(c: bool; a: int; b: int; e: E) returns (x: int) "
	for _, x := range []example{
		{"type E = P | Q; node f() returns (x: int; y: bool; z: E) let z = Q; y = true; x = -7; tel", "- -", "x: -7 -7; y: 1 1; z: 1 1"},
		{head + "var y: int; z: int; let x = y; y = z; z = a; tel", "0,4,0,0 0,5,0,0", "x: 4 5; y: 4 5; z: 4 5"},
		{head + "let x = a + b * 2; tel", "0,32767,1,0 1,-1,3,2", "x: -32767 5"},
		{head + "let x = -a / b; tel", "0,7,2,0 0,7,0,0", "x: -3 0"},
		{head + "let x = pre a + b; tel", "0,1,2,0 0,3,4,0", "x: ? 5"},
		{head + "let x = b - pre a; tel", "0,1,2,0 0,3,4,0", "x: ? 3"},
		{head + "var y: bool; let y = c and (e = Q or not (a < b)); x = 0; tel", "1,1,2,1 1,1,2,0 1,2,1,0 0,2,1,1", "y: 1 0 1 0"},
		{head + "let x = if c then a else b; tel", "1,1,2,0 0,3,4,0", "x: 1 4"},
		{head + "let x = if pre c then a else b; tel", "1,1,2,0 0,3,4,0 0,5,6,0", "x: ? 3 6"},
		{head + "let x = if c then pre a else b; tel", "0,1,2,0 1,3,4,0", "x: 2 1"}, // the undefined cell is not chosen
		{head + "let x = if c then pre a else b; tel", "1,1,2,0 1,3,4,0", "x: ? 1"},
		{head + "let x = if c then b else pre a; tel", "1,1,2,0 0,3,4,0", "x: 2 1"},
		{head + "var y: int when true(c); z: int when R(e); let y = a when true(c); z = b when R(e); x = 0; tel", "1,1,2,2 0,3,4,0 1,5,6,1", "y: 1 . 5; z: 2 . ."},
		{head + "let x = merge e (P -> a when P(e)) (Q -> 0) (R -> -b when R(e)); tel", "0,5,6,0 0,5,6,1 0,5,6,2", "x: 5 0 -6"},
		{head + "let x = merge c (true -> 1) (false -> (pre a) when false(c)); tel", "1,5,6,0 0,6,6,1 1,5,6,2", "x: 1 5 1"},
	} {
		x.check(t)
	}
}

// TestDelays has EPre, EArrow, EFby and EWord, on the base clock and on others.
func TestDelays(t *testing.T) {
	const head = counter + "node f(c: bool; a: int; b: int) returns (x: int) var y: int when true(c); v: bool when true(c); let "
	const rest = " y = 0; v = true; tel"
	const none = " v = true; x = 0; tel"
	const rows = "1,1,10 0,2,20 1,3,30 1,4,40 0,5,50"
	for _, x := range []example{
		{head + "x = pre a;" + rest, rows, "x: ? 1 2 3 4"},
		{head + "x = pre pre a;" + rest, rows, "x: ? ? 1 2 3"},
		{head + "x = pre (a + pre b);" + rest, rows, "x: ? ? 12 23 34"},
		{head + "y = pre (a when true(c));" + none, rows, "y: ? . 1 3 ."},
		{head + "y = (pre a) when true(c);" + none, rows, "y: ? . 2 3 ."},
		{head + "x = a -> b;" + rest, rows, "x: 1 20 30 40 50"},
		{head + "x = pre a -> b;" + rest, rows, "x: ? 20 30 40 50"},
		{head + "x = a -> pre b;" + rest, rows, "x: 1 10 20 30 40"},
		{head + "x = n() -> n();" + rest, rows, "x: 0 1 2 3 4"}, // both arguments are executed
		{head + "y = 1 -> 2;" + none, "0,0,0 1,0,0 0,0,0 1,0,0", "y: . 1 . 2"},
		{head + "y = (1 -> 2) when true(c);" + none, "0,0,0 1,0,0 0,0,0 1,0,0", "y: . 2 . 2"},
		{head + "x = a fby b;" + rest, rows, "x: 1 10 20 30 40"},
		{head + "x = pre a fby b;" + rest, rows, "x: ? 10 20 30 40"},
		{head + "x = 1 fby pre a;" + rest, rows, "x: 1 ? 1 2 3"},
		{head + "x = n() fby n();" + rest, rows, "x: 0 0 1 2 3"},
		{head + "x = n() fby 7;" + rest, rows, "x: 0 7 7 7 7"},
		{head + "x = 1 fby 2 fby a;" + rest, rows, "x: 1 2 1 2 3"},
		{head + "y = (a when true(c)) fby (b when true(c));" + none, rows, "y: 1 . 10 30 ."},
		{head + "y = (a fby b) when true(c);" + none, rows, "y: 1 . 20 30 ."},
		{head + "y = n();" + none, rows, "y: 0 . 1 2 ."},
		{head + "y = n() when true(c);" + none, rows, "y: 0 . 2 3 ."},
		{head + "v = '0(110)'; y = 0; x = 0; tel", rows, "v: 0 . 1 1 ."},
		{head + "v = '0(110)' when true(c); y = 0; x = 0; tel", rows, "v: 0 . 1 0 ."},
	} {
		x.check(t)
	}
}

// TestExecuted has occurrences that are executed where they have no effect: their state shows it.
func TestExecuted(t *testing.T) {
	const head = counter + "node f(c: bool) returns (x: int) "
	for _, x := range []example{
		{head + "let x = if c then n() else n(); tel", "1 0 0 1", "x: 0 1 2 3"},
		{head + "let x = merge c (true -> n()) (false -> n()); tel", "1 0 0 1", "x: 0 0 1 1"},
		{head + "let x = merge c (true -> n() when true(c)) (false -> n()); tel", "1 0 0 1", "x: 0 0 1 3"},
		{head + "var y: int when true(c); let y = n() when true(c); x = 0; tel", "0 1 0 1", "y: . 1 . 3"},
		{head + "var y: int when true(c); let y = pre (n() when true(c)); x = 0; tel", "1 0 0 1 1", "y: ? . . 0 3"},
		{head + "let x = merge c (true -> 7 fby (n() when true(c))) (false -> -1); tel", "0 1 0 1 1", "x: -1 7 -1 1 3"},
		{head + "let x = merge c (true -> 7 fby n()) (false -> -1); tel", "0 1 0 1 1", "x: -1 7 -1 0 1"},
		{head + "let x = merge c (true -> (if '(10)' then 1 else 2) when true(c)) (false -> 0 -> pre n()); tel", "0 1 0 1 0 0", "x: 0 2 0 2 1 2"},
		{head + "var d: bool when true(c); y: int when true(c) when true(d); let d = '(01)'; y = n() when true(d); x = 0; tel", "1 0 1 1 0 1", "d: 0 . 1 0 . 1; y: . . 1 . . 3"},
		{head + "var d: bool when true(c); y: int when true(c) when true(d); let d = '(01)'; y = n() when true(c) when true(d); x = 0; tel", "1 0 1 1 0 1", "y: . . 2 . . 5"},
		{head + "let x = 0 -> pre (if c then n() else n()); tel", "1 0 0 1", "x: 0 0 1 2"},
		{head + "let x = 0 fby n() every c; tel", "0 0 1 0", "x: 0 0 1 0"},
		{head + "var y: int when true(c); let y = 0; x = 0 fby merge c (true -> y + n()) (false -> n()); tel", "1 0 0 1 1", "x: 0 0 0 1 1"},
	} {
		x.check(t)
	}
}

// TestUndefinedClocks: a clock variable that is undefined activates no sampling.
func TestUndefinedClocks(t *testing.T) {
	const head = "node f(a: bool; b: int) returns (x: int) var c: bool; y: int when true(c); z: int when false(c); let c = pre a; "
	for _, x := range []example{
		{head + "y = 1; z = 2; x = merge c (true -> y) (false -> z); tel", "1,0 0,0 0,0", "c: ? 1 0; y: . 1 .; z: . . 2; x: ? 1 2"},
		{head + "y = 1 -> 2; z = b when false(c); x = merge c (true -> (7 fby b) when true(c)) (false -> z); tel", "1,7 1,8 0,9 0,6", "c: ? 1 1 0; y: . 1 2 .; z: . . . 6; x: ? 7 8 6"},
		{head + "y = b when true(c); z = (1 -> pre b) when false(c); x = merge c (true -> y) (false -> z + 10); tel", "0,3 0,4 0,5", "c: ? 0 0; y: . . .; z: . 3 4; x: ? 13 14"},
	} {
		x.check(t)
	}
}

// TestCalls has calls with one output and with several ones, with and without a reset condition.
func TestCalls(t *testing.T) {
	const two = counter + "node m() returns (x: int) let x = n() + n(); tel node d(a: int) returns (x: int; y: int) let x = a; y = 0 -> pre x; tel "
	for _, x := range []example{
		{two + "node f() returns (x: int) let x = n() + n(); tel", "- - -", "x: 0 2 4"},
		{two + "node f() returns (x: int; y: int) let x = n(); y = n(); tel", "- - -", "x: 0 1 2; y: 0 1 2"},
		{two + "node f(r: bool) returns (x: int) let x = n() every r; tel", "0 0 1 0 1 1 0", "x: 0 1 0 1 0 0 1"},
		{two + "node f(r: bool) returns (x: int) let x = n() every r; tel", "1 0 0", "x: 0 1 2"},
		{two + "node f(r: bool) returns (x: int) let x = n() every (pre r); tel", "1 0 0 0", "x: 0 0 1 2"},
		{two + "node f(r: bool) returns (x: int) let x = n() every (pre pre r); tel", "0 0 1 0 0", "x: 0 1 2 3 0"},
		{two + "node f(r: bool) returns (x: int) let x = m() every r; tel", "0 0 1 0", "x: 0 2 0 2"},
		{two + "node f(r: bool) returns (x: int) let x = n() + n() every r; tel", "0 0 1 0", "x: 0 2 2 4"},
		{two + "node f(r: bool) returns (x: int) let x = 0 -> pre n() every r; tel", "0 0 1 0", "x: 0 0 1 0"},
		{two + "node f(a: int) returns (x: int; y: int) let (y, x) = d(a); tel", "3 4 5", "y: 3 4 5; x: 0 3 4"},
		{two + "node f(a: int; c: bool) returns (x: int) var y: int when true(c); z: int when true(c); let (y, z) = d(a when true(c)); x = 0; tel", "1,0 2,1 3,0 4,1", "y: . 2 . 4; z: . 0 . 2"},
		{two + "node f(a: int; c: bool; r: bool) returns (x: int) var y: int when true(c); z: int when true(c); let (y, z) = d(a when true(c)) every (r when true(c)); x = 0; tel", "1,1,0 2,0,1 3,1,0 4,1,1 5,0,0 6,1,0", "y: 1 . 3 4 . 6; z: 0 . 1 0 . 4"},
		{two + "node f(a: int) returns (x: int; y: int) let (x, y) = d(pre a); tel", "3 4 5", "x: ? 3 4; y: 0 ? 3"},
		{two + "node g(a: int; b: bool; c: int) returns (x: int) let x = if b then a else c; tel node f(b: bool) returns (x: int) let x = g(1, b, 2); tel", "0 1", "x: 2 1"},
		{"node g(w: bool) returns (x: bool) let x = '1(0)' xor w; tel node f(r: bool) returns (x: bool) let x = g(false) every r; tel", "0 0 1 0", "x: 1 0 1 0"},
		{"node g() returns (x: int) let x = 1 -> 2; tel node f(r: bool) returns (x: int) let x = g() every r; tel", "0 0 1 0", "x: 1 2 1 2"},
		{"node g(a: int) returns (x: int) let x = pre a; tel node f(r: bool) returns (x: int) let x = g(5) every r; tel", "0 0 1 0", "x: ? 5 ? 5"},
	} {
		x.check(t)
	}
}

// TestOrder: equations and automata may be in any order.
func TestOrder(t *testing.T) {
	const body = "x = y + 1; automaton state A do y = z; until c then B; done state B do y = 0; done end automaton state A unless w > 3 then A; do z = w; done end w = if c then a else 2; "
	for _, x := range []example{
		{"node f(a: int; c: bool) returns (x: int) var y: int; z: int; w: int; let " + body + "tel", "1,0 2,1 3,1", "w: 2 2 3; z: 2 2 3; y: 2 2 0; x: 3 3 1"},
		{"node f(a: int; c: bool) returns (x: int) var y: int; z: int; w: int; let automaton state S do " + body + "done end tel", "1,0 2,1 3,1", "w: 2 2 3; z: 2 2 3; y: 2 2 0; x: 3 3 1"},
		{"node f(a: bool) returns (x: int) var y: int when true(c); c: bool; let x = merge c (true -> y) (false -> 0); y = 5; c = not a; tel", "0 1", "x: 5 0"},
		{"node f(a: bool) returns (x: int) var y: int when true(c); c: bool; let y = 5; c = not a; x = 0; tel", "1 0 1", "y: . 5 ."},
	} {
		x.check(t)
	}
}

// TestMany: a chain of as many variables as a node can have, each one before that on which it depends.
func TestMany(t *testing.T) {
	n := api.Node{Name: "f", In: []api.Decl{{Name: "a", Type: api.TInt}}, Out: []api.Decl{{Name: "v1", Type: api.TInt}}}
	for i := 1; i <= api.MaxEqs; i++ {
		next := api.Expr{Kind: api.EVar, Name: "v" + strconv.Itoa(i+1)}
		if i == api.MaxEqs {
			next.Name = "a"
		}
		plus := api.Expr{Kind: api.EOp, Op: api.OpAdd, Args: []api.Expr{next, {Kind: api.EConst, T: api.TInt, V: 1}}}
		n.Eqs = append(n.Eqs, api.Eq{Left: []string{"v" + strconv.Itoa(i)}, Right: plus})
		if i > 1 {
			n.Locals = append(n.Locals, api.Decl{Name: "v" + strconv.Itoa(i), Type: api.TInt})
		}
	}
	l := history(t, api.Program{Nodes: []api.Node{n}}, rowsOf("0 1 1000"), []string{"v1"})[0]
	if s := text(l); s != "256 257 1256" {
		t.Errorf("the first variable is %s", s)
	}
}

// TestManyCalls: New makes no instances, which may be more than there can be, and an instant makes those that are executed.
func TestManyCalls(t *testing.T) {
	text := "node f0(c: bool) returns (x: int) let x = 0 fby x + 1; tel "
	for i := 1; i < api.MaxNodes; i++ {
		call := "f" + strconv.Itoa(i-1) + "(c when true(c))"
		text += "node f" + strconv.Itoa(i) + "(c: bool) returns (x: int) let x = merge c (true -> " + call + " + " + call + ") (false -> 7); tel "
	}
	example{text, "0 0", "x: 7 7"}.check(t)
}
