package sim

import "testing"

// The tests of automata are of P17.2 and G3: what they want follows from the section Semantics.

// machine is an automaton that defines x in the node f(c: bool; d: bool; a: int), the rows, and the values of x.
type machine struct{ auto, rows, want string }

func checkMachines(t *testing.T, l []machine) {
	t.Helper()
	for _, x := range l {
		example{counter + "node f(c: bool; d: bool; a: int) returns (x: int) let automaton " + x.auto + " end tel", x.rows, "x: " + x.want}.check(t)
	}
}

// TestUntil has transitions that are taken at the end of an instant.
func TestUntil(t *testing.T) {
	const rows = "0,0,0 0,0,0 1,0,0 0,0,0 0,0,0"
	checkMachines(t, []machine{
		{"state Up do x = 1; until true then Down; done state Down do x = 2; until true then Up; done", rows, "1 2 1 2 1"},
		{"state A do x = 0 fby x + 1; until c then B; done state B do x = 8; until true then A; done", rows, "0 1 2 8 0"},
		{"state A do x = 0 fby x + 1; until c then B; done state B do x = 8; until true continue A; done", rows, "0 1 2 8 3"},
		{"state A do x = 0 fby x + 1; until c then A; done", rows, "0 1 2 0 1"},
		{"state A do x = 0 fby x + 1; until c continue A; done", rows, "0 1 2 3 4"},
		{"state A do x = 0; until c then B; until d then C; done state B do x = 1; until true then A; done state C do x = 2; until true then A; done", "1,1,0 1,1,0 0,1,0 0,1,0 0,0,0 1,0,0 0,0,0", "0 1 0 2 0 0 1"},
		{"state A do x = 0 fby x + 1; until c continue B; until d then B; done state B do x = 5 fby x + 1; until true continue A; done", "1,1,0 0,0,0 1,1,0 0,0,0 0,1,0 0,0,0", "0 5 1 6 2 5"},
	})
}

// TestUnless has transitions that are taken at once.
func TestUnless(t *testing.T) {
	const rows = "0,0,0 0,0,0 1,0,0 1,0,0 0,0,0 0,0,0 1,0,0"
	checkMachines(t, []machine{
		{"state A unless c then B; do x = 0 fby x + 1; done state B unless not c then A; do x = 5 fby x + 1; done", rows, "0 1 5 6 0 1 5"},
		{"state A unless c continue B; do x = 0 fby x + 1; done state B unless not c continue A; do x = 5 fby x + 1; done", rows, "0 1 5 6 2 3 7"},
		{"state A unless true then B; do x = 0; done state B unless c then A; do x = 1; done", rows, "1 1 0 1 1 1 0"}, // one transition of this kind at an instant
		{"state A unless c then A; do x = 0 fby x + 1; done", rows, "0 1 0 0 1 2 0"},
		{"state A unless c continue A; do x = 0 fby x + 1; done", rows, "0 1 2 3 4 5 6"},
		{"state A unless c then B; unless d then C; do x = 0; done state B unless true then A; do x = 1; done state C unless true then A; do x = 2; done", "1,1,0 1,1,0 0,1,0 0,1,0 0,1,0 1,0,0", "1 0 2 0 2 0"},
		{"state A unless c continue B; unless c then B; do x = 0; until c then A; done state B do x = 5 fby x + 1; until true then A; done", rows, "0 0 5 6 0 0 7"},
		{"state A unless c then B; do x = 0; until true then C; done state B do x = 1; until true then C; done state C do x = 2; until true then A; done", "1,0,0 1,0,0 0,0,0 1,0,0", "1 2 0 2"}, // one of either kind
	})
}

// TestRestart: the restart flag stays as it was, unless an Unless transition decides about it.
func TestRestart(t *testing.T) {
	const rows = "0,0,0 0,0,0 0,0,0 1,0,0 0,0,0 0,0,0 0,0,0 0,1,0"
	checkMachines(t, []machine{
		{"state A do x = 100; until true then B; done state B unless c continue B; unless d then B; do x = 0 fby x + 1; until true continue A; done", rows, "100 0 100 1 100 0 100 0"},
		{"state A do x = 100; until true continue B; done state B unless c continue B; unless d then B; do x = 0 fby x + 1; until true continue A; done", rows, "100 0 100 1 100 2 100 0"},
		{"state A do x = 100 fby x + 1; until true then B; done state B do x = 0 fby x + 1; until true continue A; done", rows, "100 0 101 0 102 0 103 0"},
		{"state A do x = 0 fby x + 1; until c then A; until d then A; done", "0,0,0 1,0,0 0,0,0 0,0,0 0,1,0 0,0,0", "0 1 0 1 2 0"}, // restarted once
	})
}

// TestUndefinedConditions: an undefined condition counts as false.
func TestUndefinedConditions(t *testing.T) {
	const rows = "1,0,0 1,0,0 0,0,0 0,0,0"
	checkMachines(t, []machine{
		{"state A do x = 1; until pre c then B; done state B do x = 2; done", rows, "1 1 2 2"},
		{"state A do x = 1; until pre c then B; until true then C; done state B do x = 2; done state C do x = 3; done", rows, "1 3 3 3"},
		{"state A do x = 0 fby x + 1; until c then A; until pre c continue A; done", "0,0,0 1,0,0 0,0,0 0,0,0", "0 1 0 1"},
	})
	for _, x := range []example{
		{"node f(c: bool) returns (x: int) var u: bool; let u = pre c; automaton state A unless u then B; do x = 1; done state B do x = 2; done end tel", "1 0 0", "x: 1 2 2"},
		{"node f(c: bool) returns (x: int) var u: bool; let u = pre c; automaton state A unless u then B; unless c then C; do x = 1; done state B do x = 2; done state C do x = 3; done end tel", "1 0 0", "x: 3 3 3"},
		{"node f(c: bool) returns (x: int) var u: bool; let u = pre (pre c); automaton state A do x = 0 fby x + 1; until c then B; done state B unless u then A; do x = 5 fby x + 1; until true continue B; done end tel", "1 0 0 0", "x: 0 5 0 1"},
	} {
		x.check(t)
	}
}

// TestConditions: all conditions of a list are executed, and those of Until transitions are a part of the body.
func TestConditions(t *testing.T) {
	checkMachines(t, []machine{
		{"state A do x = 1; until c continue A; until n() = 2 then B; done state B do x = 2; done", "1,0,0 1,0,0 0,0,0 0,0,0", "1 1 1 2"},
		{"state A do x = 1; until c then A; until n() = 2 then B; done state B do x = 2; until true then A; done", "0,0,0 1,0,0 0,0,0 0,0,0 0,0,0 0,0,0", "1 1 1 1 1 2"},
		{"state A do x = 1; until n() = 2 then B; done state B do x = 2; until true continue A; done", "0,0,0 0,0,0 0,0,0 0,0,0 0,0,0 0,0,0", "1 1 1 2 1 1"},
		{"state A do x = 1; until false -> pre (a = 7) then B; done state B do x = 2; until true then A; done", "0,0,7 0,0,0 0,0,0 0,0,7 0,0,7", "1 1 2 1 1"},
		{"state A var l: bool; do x = 0 fby x + 1; l = x > 1; until l then B; done state B do x = -1; until x < 0 and d then A; done", "0,0,0 0,1,0 0,0,0 0,0,0 0,1,0 0,0,0", "0 1 2 -1 -1 0"},
	})
}

// TestNested has automata in states.
func TestNested(t *testing.T) {
	const inner = "state A do automaton state C do x = 1; until true then D; done state D do x = 2; done end "
	const rows = "0,0,0 0,0,0 1,0,0 0,0,0 0,0,0"
	checkMachines(t, []machine{
		{inner + "until c then A; done", rows, "1 2 2 1 2"},
		{inner + "until c continue A; done", rows, "1 2 2 2 2"},
		{inner + "until c then B; done state B do x = 3; until true continue A; done", rows, "1 2 2 3 2"},
		{inner + "until c then B; done state B do x = 3; until true then A; done", rows, "1 2 2 3 1"},
		{"state A unless c then A; do automaton state B do automaton state C do x = 0 fby x + 1; until d continue D; done state D do x = 10 fby x + 1; until d continue C; done end done end done", "0,0,0 0,1,0 0,0,0 0,1,0 0,0,0 1,0,0 0,1,0 0,0,0", "0 1 10 11 2 0 1 10"},
		{"state A var l: int; do automaton state C do l = 0 fby l + 1; until l >= 1 continue D; done state D do l = 7; until true continue C; done end x = l * 2; until c then A; done", "0,0,0 0,0,0 0,0,0 0,0,0 1,0,0 0,0,0", "0 2 14 4 14 0"},
		{"state A do automaton state C unless c then D; do x = 1; done state D unless a > 0 continue C; do x = 2; done end until d then A; done", "0,0,0 1,0,0 0,1,0 0,0,0 1,0,0 0,0,5", "1 2 2 1 2 1"},
	})
}

// TestBodies has what a state can contain; only the occurrences of the executed state are executed.
func TestBodies(t *testing.T) {
	const rows = "1,0,1 0,0,2 1,0,3 0,0,4 1,0,5"
	checkMachines(t, []machine{
		{"state A unless not c continue B; do x = 0 fby a; done state B unless c continue A; do x = 9 -> pre a; done", rows, "0 9 1 2 3"},
		{"state A unless not c continue B; do x = 0 -> pre x + 1; done state B unless c continue A; do x = 9 -> pre x - 1; done", rows, "0 9 1 8 2"},
		{"state A unless not c continue B; do x = n(); done state B unless c continue A; do x = -n(); done", rows, "0 0 1 -1 2"},
		{"state A unless not c then B; do x = n(); done state B unless c continue A; do x = n() + 5; done", rows, "0 5 1 5 2"},
		{"state A unless not c continue B; do x = if '(110)' then 1 else 0; done state B unless c continue A; do x = if '0(1)' then 3 else 2; done", rows, "1 2 1 3 0"},
		{"state A var l: int; do l = a + x; x = 0 fby l; until c then B; done state B var l: bool; do l = a > 3; x = if l then 1 else 2; until true continue A; done", rows, "0 2 1 1 4"},
		{"state A var l: int when true(c); m: int when false(c); do l = 1 fby a when true(c); m = 10 -> 20; x = merge c (true -> l) (false -> m); until a = 3 then A; done", rows, "1 10 1 10 1"},
		{"state A var l: int when true(c); do l = 7 fby (a when true(c)); x = merge c (true -> l) (false -> 0); until a = 3 continue A; done", rows, "7 0 1 0 3"},
		{"state A var k: bool; l: int when true(k); do k = not c; l = a when true(k); x = merge k (true -> l) (false -> n() when false(k)); done", rows, "0 2 2 4 4"},
		{"state A do x = 0 fby n() every c; until d then A; done", rows, "0 0 1 0 1"},
	})
}

// TestParts has automata in nodes that are called, several ones in one node, and one that defines nothing.
func TestParts(t *testing.T) {
	const toggle = "node g(c: bool) returns (x: int) let automaton state A do x = 0 fby x + 1; until c then B; done state B do x = 100 fby x + 1; until c continue A; done end tel "
	const pair = "node d(a: int) returns (x: int; y: int) let x = a; y = 0 -> pre a; tel "
	for _, x := range []example{
		{toggle + "node f(c: bool; r: bool) returns (x: int) let x = g(c) every r; tel", "0,0 1,0 0,0 0,0 0,1 0,0", "x: 0 1 100 101 0 1"},
		{toggle + "node f(c: bool; d: bool) returns (x: int) var y: int when true(d); let y = g(c when true(d)); x = 0; tel", "0,1 1,0 1,1 1,0 1,1 0,1", "y: 0 . 1 . 100 2"},
		{toggle + "node f(c: bool; d: bool) returns (x: int; y: int) let x = g(c); y = g(d); tel", "0,1 1,0 0,0 0,1 0,0", "x: 0 1 100 101 102; y: 0 100 101 102 1"},
		{toggle + "node f(c: bool; r: bool) returns (x: int) let automaton state S do x = g(c); until r then S; done end tel", "0,0 1,0 0,1 0,0 0,0", "x: 0 1 100 0 1"},
		{pair + "node f(c: bool; a: int) returns (x: int; y: int) let automaton state A unless c then B; do (x, y) = d(a); done state B unless not c continue A; do (y, x) = d(-a); done end tel", "0,1 0,2 1,3 1,4 0,5", "x: 1 2 0 -3 5; y: 0 1 -3 -4 2"},
		{"node f(c: bool) returns (x: int) var y: bool; z: bool; let z = false fby y; automaton state A do x = 1; until z then B; done state B do x = 2; until z then A; done end automaton state C do y = c; until x = 2 then D; done state D do y = false; until c then C; done end tel", "0 1 0 0 1 1 0 0", "x: 1 1 1 2 2 2 2 1; y: 0 1 0 0 0 1 0 0"},
		{counter + "node f(c: bool) returns (x: int) let x = n(); automaton state A var l: int; do l = x; until true then A; done end tel", "0 0 0", "x: 0 1 2"},
		{counter + "node f(c: bool) returns (x: int) let x = n(); automaton state A unless x > 0 then A; do done end tel", "0 0 0", "x: 0 1 2"},
		{"type E = P | Q; node f(c: bool) returns (x: E; y: int) let automaton state A do x = P; y = if x = P then 1 else 2; until c then B; done state B do x = Q fby P; y = merge x (P -> 3) (Q -> 4); until c then A; done end tel", "1 0 0 1 0", "x: 0 1 0 0 0; y: 1 4 3 3 1"},
	} {
		x.check(t)
	}
}
