package norm

import (
	"reflect"
	"slices"
	"strconv"
	"strings"
	"testing"

	"synchrony/api"
	"synchrony/shape"
)

// before has nodes that the node of an example can call.
const before = `
type E = P | Q | R;
node g(a: int; c: bool) returns (x: int) let x = if c then a else 0; tel
node h(a: int) returns (x: int; y: bool) let x = a; y = a > 0; tel
node k() returns (x: int) let x = 7; tel
`

// example has the variables and equations of the node f, which has the inputs a, b, c, d, e, and those of its normal form.
type example struct{ out, vars, eqs, want string }

func (x example) check(t *testing.T) {
	t.Helper()
	s := before + "node f(a: int; b: int; c: bool; d: bool; e: E) returns (" + x.out + ") "
	if x.vars != "" {
		s += "var " + x.vars + "; "
	}
	s += "let " + x.eqs + " tel"
	p := read(t, s)
	n := normal(t, s, p)
	if e := Check(n); e != api.OK {
		t.Errorf("%s: Check of the normal form returns the error %d", s, int(e))
	}
	if l := text(t, Back(n), 3); l != x.want {
		t.Errorf("%s has the normal form\n%s\nwant\n%s", s, l, x.want)
	}
	expectNewMemory(t, s, p, n)
	if !shape.Same(p, read(t, s)) {
		t.Errorf("%s: the program became another one", s)
	}
}

// The tests of examples are of P19.1.

// TestSimple has simple expressions, which stay as they are, and delays, calls and words in an expression.
func TestSimple(t *testing.T) {
	for _, x := range []example{
		{"x: int", "", "x = 1;", "let x = 1; tel"},
		{"x: int", "", "x = -1;", "let x = -1; tel"},
		{"x: E", "", "x = R;", "let x = R; tel"},
		{"x: int", "", "x = a;", "let x = a; tel"},
		{"x: int", "", "x = a + b * -a;", "let x = a + (b * (-a)); tel"},
		{"x: bool", "", "x = not (a < b) and e = Q;", "let x = (not (a < b)) and (e = Q); tel"},
		{"x: int", "", "x = if c then a + 1 else if d then b else 0;", "let x = if c then a + 1 else if d then b else 0; tel"},
		{"x: int; y: int", "z: int", "z = y; y = a; x = z;", "var z: int; let z = y; y = a; x = z; tel"},
		{"x: bool", "", "x = not '(10)';", "var aux_1: bool; let aux_1 = '(10)'; x = not aux_1; tel"},
		{"x: int", "", "x = -k();", "var aux_1: int; let aux_1 = k(); x = -aux_1; tel"},
		{"x: int", "", "x = a + (0 fby b);", "var aux_1: int; let aux_1 = 0 fby b; x = a + aux_1; tel"},
		{"x: int; l: int", "", "x = 0 -> l; l = 5 -> pre a - pre b;", "var aux_1: bool; aux_2: int; aux_3: int; aux_4: bool; let aux_1 = true fby false; x = if aux_1 then 0 else l; aux_2 = 0 fby a; aux_3 = 0 fby b; aux_4 = true fby false; l = if aux_4 then 5 else aux_2 - aux_3; tel"},
		{"x: int", "", "x = if '1(0)' then g(a, c) else 2 fby a;", "var aux_1: bool; aux_2: int; aux_3: int; let aux_1 = '1(0)'; aux_2 = g(a, c); aux_3 = 2 fby a; x = if aux_1 then aux_2 else aux_3; tel"},
	} {
		x.check(t)
	}
}

// TestSampled has samplings, whose arguments become atoms on the clock before.
func TestSampled(t *testing.T) {
	for _, x := range []example{
		{"x: int", "y: int when true(c)", "x = a; y = a when true(c);", "var y: int when true(c); let x = a; y = a when true(c); tel"},
		{"x: int", "y: int when Q(e)", "x = a; y = 1 when Q(e);", "var y: int when Q(e); let x = a; y = 1 when Q(e); tel"},
		{"x: int", "y: int when true(c)", "x = a; y = (a + 1) when true(c);", "var y: int when true(c); aux_1: int; let x = a; aux_1 = a + 1; y = aux_1 when true(c); tel"},
		{"x: int", "y: int when true(c)", "x = a; y = (a + 1) when true(c) - b when true(c);", "var y: int when true(c); aux_1: int; let x = a; aux_1 = a + 1; y = (aux_1 when true(c)) - (b when true(c)); tel"},
		{"x: int", "y: int when true(c)", "x = a; y = (0 fby a) when true(c);", "var y: int when true(c); aux_1: int; let x = a; aux_1 = 0 fby a; y = aux_1 when true(c); tel"},
		{"x: int", "y: int when true(c)", "x = a; y = 0 fby (a when true(c));", "var y: int when true(c); aux_1: int when true(c); let x = a; aux_1 = a when true(c); y = 0 fby aux_1; tel"},
		{"x: int", "k: bool when true(c); y: int when true(c) when false(k)", "x = a; k = d when true(c); y = (a when true(c)) when false(k);",
			"var k: bool when true(c); y: int when true(c) when false(k); aux_1: int when true(c); let x = a; k = d when true(c); aux_1 = a when true(c); y = aux_1 when false(k); tel"},
		{"x: int", "k: bool when true(c); y: int when true(c) when false(k)", "x = a; k = d when true(c); y = ((a + b) when true(c) + 1) when false(k) * 2;",
			"var k: bool when true(c); y: int when true(c) when false(k); aux_1: int; aux_2: int when true(c); let x = a; k = d when true(c); aux_1 = a + b; aux_2 = (aux_1 when true(c)) + 1; y = (aux_2 when false(k)) * 2; tel"},
		{"x: int", "y: bool when true(c)", "x = a; y = '(10)' when true(c);", "var y: bool when true(c); aux_1: bool; let x = a; aux_1 = '(10)'; y = aux_1 when true(c); tel"},
	} {
		x.check(t)
	}
}

// TestMerged has merges as control expressions, and in other expressions.
func TestMerged(t *testing.T) {
	for _, x := range []example{
		{"x: int", "", "x = merge c (true -> a when true(c)) (false -> 0);", "let x = merge c (true -> a when true(c)) (false -> 0); tel"},
		{"x: int", "", "x = merge e (P -> 1) (Q -> a when Q(e) + 1) (R -> if c when R(e) then 2 else 3);", "let x = merge e (P -> 1) (Q -> (a when Q(e)) + 1) (R -> if c when R(e) then 2 else 3); tel"},
		{"x: int", "", "x = merge c (true -> (a + 1) when true(c)) (false -> (a - 1) when false(c));",
			"var aux_1: int; aux_2: int; let aux_1 = a - 1; aux_2 = a + 1; x = merge c (true -> aux_2 when true(c)) (false -> aux_1 when false(c)); tel"}, // false is the first argument
		{"x: int", "k: bool when true(c)", "k = d when true(c); x = merge c (true -> merge k (true -> 1) (false -> (a when true(c)) when false(k))) (false -> 0);",
			"var k: bool when true(c); aux_1: int when true(c); let k = d when true(c); aux_1 = a when true(c); x = merge c (true -> merge k (true -> 1) (false -> aux_1 when false(k))) (false -> 0); tel"},
		{"x: int", "", "x = 1 + merge c (true -> a when true(c)) (false -> 0);", "var aux_1: int; let aux_1 = merge c (true -> a when true(c)) (false -> 0); x = 1 + aux_1; tel"},
		{"x: bool", "", "x = d and merge e (P -> '(10)') (Q -> true) (R -> c when R(e));",
			"var aux_1: bool when P(e); aux_2: bool; let aux_1 = '(10)'; aux_2 = merge e (P -> aux_1) (Q -> true) (R -> c when R(e)); x = d and aux_2; tel"},
		{"x: int", "", "x = merge c (true -> g(a when true(c), d when true(c))) (false -> 0);", "var aux_1: int when true(c); let aux_1 = g(a when true(c), d when true(c)); x = merge c (true -> aux_1) (false -> 0); tel"},
		{"x: int", "", "x = merge c (true -> 0 fby a when true(c)) (false -> 1 -> 2);",
			"var aux_1: bool when false(c); aux_2: int when true(c); aux_3: int when true(c); let aux_1 = true fby false; aux_2 = a when true(c); aux_3 = 0 fby aux_2; x = merge c (true -> aux_3) (false -> if aux_1 then 1 else 2); tel"},
		{"x: int", "k: bool when true(c)", "k = d when true(c); x = merge c (true -> 1 + merge k (true -> 1) (false -> 2)) (false -> 0);",
			"var k: bool when true(c); aux_1: int when true(c); let k = d when true(c); aux_1 = merge k (true -> 1) (false -> 2); x = merge c (true -> 1 + aux_1) (false -> 0); tel"},
		{"x: int", "", "x = if d then merge c (true -> 1) (false -> 2) else 3;", "var aux_1: int; let aux_1 = merge c (true -> 1) (false -> 2); x = if d then aux_1 else 3; tel"},
		{"x: int", "", "x = 0 fby merge c (true -> x when true(c)) (false -> 2);", "var aux_1: int; let aux_1 = merge c (true -> x when true(c)) (false -> 2); x = 0 fby aux_1; tel"},
	} {
		x.check(t)
	}
}

// TestDelayed has EPre and EFby with a constant, as right sides and in other expressions, and with all kinds of arguments.
func TestDelayed(t *testing.T) {
	for _, x := range []example{
		{"x: int", "l: int", "l = pre a; x = 0 -> l;", "var l: int; aux_1: bool; let l = 0 fby a; aux_1 = true fby false; x = if aux_1 then 0 else l; tel"},
		{"x: int", "l: bool", "l = pre (a > 1); x = a;", "var l: bool; aux_1: bool; let aux_1 = a > 1; l = false fby aux_1; x = a; tel"},
		{"x: int", "l: E", "l = pre e; x = a;", "var l: E; let l = P fby e; x = a; tel"},
		{"x: int", "l: E", "l = pre Q; x = a;", "var l: E; let l = P fby Q; x = a; tel"},
		{"x: E", "", "x = Q -> pre (if c then e else R);", "var aux_1: E; aux_2: E; aux_3: bool; let aux_1 = if c then e else R; aux_2 = P fby aux_1; aux_3 = true fby false; x = if aux_3 then Q else aux_2; tel"},
		{"x: int", "", "x = -5 fby x + 1;", "var aux_1: int; let aux_1 = x + 1; x = (-5) fby aux_1; tel"},
		{"x: bool", "", "x = true fby not x;", "var aux_1: bool; let aux_1 = not x; x = true fby aux_1; tel"},
		{"x: E", "", "x = R fby if c then P else e;", "var aux_1: E; let aux_1 = if c then P else e; x = R fby aux_1; tel"},
		{"x: int", "", "x = 3 fby 4;", "let x = 3 fby 4; tel"},
		{"x: int", "", "x = 1 fby 2 fby a;", "var aux_1: int; let aux_1 = 2 fby a; x = 1 fby aux_1; tel"},
		{"x: int", "", "x = (1 fby 2 fby a) + 3;", "var aux_1: int; aux_2: int; let aux_1 = 2 fby a; aux_2 = 1 fby aux_1; x = aux_2 + 3; tel"},
		{"x: int", "", "x = 1 fby k();", "var aux_1: int; let aux_1 = k(); x = 1 fby aux_1; tel"},
		{"x: bool", "", "x = false fby '(110)';", "var aux_1: bool; let aux_1 = '(110)'; x = false fby aux_1; tel"},
		{"x: E", "", "x = if (Q fby e) = R then P fby Q else e;", "var aux_1: E; aux_2: E; let aux_1 = Q fby e; aux_2 = P fby Q; x = if aux_1 = R then aux_2 else e; tel"},
		{"x: int", "y: int when true(c)", "x = a; y = 9 fby y + (a when true(c));", "var y: int when true(c); aux_1: int when true(c); let x = a; aux_1 = y + (a when true(c)); y = 9 fby aux_1; tel"},
		{"x: int", "y: int when true(c)", "x = a; y = 0 -> pre y;", "var y: int when true(c); aux_1: int when true(c); aux_2: bool when true(c); let x = a; aux_1 = 0 fby y; aux_2 = true fby false; y = if aux_2 then 0 else aux_1; tel"},
	} {
		x.check(t)
	}
}

// TestFirst has EArrow, and EFby whose first argument is no constant.
func TestFirst(t *testing.T) {
	for _, x := range []example{
		{"x: int", "", "x = a -> (pre x) + 1;", "var aux_1: int; aux_2: bool; let aux_1 = 0 fby x; aux_2 = true fby false; x = if aux_2 then a else aux_1 + 1; tel"},
		{"x: int", "", "x = 1 -> 2;", "var aux_1: bool; let aux_1 = true fby false; x = if aux_1 then 1 else 2; tel"},
		{"x: int", "", "x = 1 -> 2 -> 3;", "var aux_1: bool; aux_2: bool; let aux_1 = true fby false; aux_2 = true fby false; x = if aux_2 then 1 else if aux_1 then 2 else 3; tel"},
		{"x: int", "", "x = k() -> -k();", "var aux_1: int; aux_2: int; aux_3: bool; let aux_1 = k(); aux_2 = k(); aux_3 = true fby false; x = if aux_3 then aux_1 else -aux_2; tel"},
		{"x: int", "", "x = a fby b;", "var aux_1: bool; aux_2: int; let aux_1 = true fby false; aux_2 = 0 fby b; x = if aux_1 then a else aux_2; tel"},
		{"x: E", "", "x = e fby Q;", "var aux_1: bool; aux_2: E; let aux_1 = true fby false; aux_2 = P fby Q; x = if aux_1 then e else aux_2; tel"},
		{"x: bool", "", "x = (not c) fby d;", "var aux_1: bool; aux_2: bool; let aux_1 = true fby false; aux_2 = false fby d; x = if aux_1 then not c else aux_2; tel"},
		{"x: int", "", "x = k() fby x + 1;", "var aux_1: int; aux_2: int; aux_3: bool; aux_4: int; let aux_1 = k(); aux_2 = x + 1; aux_3 = true fby false; aux_4 = 0 fby aux_2; x = if aux_3 then aux_1 else aux_4; tel"},
		{"x: int", "", "x = 1 + (-1 fby a fby b);", "var aux_1: bool; aux_2: int; aux_3: int; aux_4: int; let aux_1 = true fby false; aux_2 = 0 fby b; aux_3 = if aux_1 then a else aux_2; aux_4 = (-1) fby aux_3; x = 1 + aux_4; tel"},
		{"x: int", "", "x = (-1 fby a) fby b;", "var aux_1: int; aux_2: bool; aux_3: int; let aux_1 = (-1) fby a; aux_2 = true fby false; aux_3 = 0 fby b; x = if aux_2 then aux_1 else aux_3; tel"},
		{"x: int", "y: int when false(c)", "x = a; y = (b when false(c)) fby y;", "var y: int when false(c); aux_1: bool when false(c); aux_2: int when false(c); let x = a; aux_1 = true fby false; aux_2 = 0 fby y; y = if aux_1 then b when false(c) else aux_2; tel"},
		{"x: int", "y: int when false(c)", "x = a; y = (a -> b) when false(c);", "var y: int when false(c); aux_1: bool; aux_2: int; let x = a; aux_1 = true fby false; aux_2 = if aux_1 then a else b; y = aux_2 when false(c); tel"},
		{"x: int", "y: int when false(c)", "x = a; y = a when false(c) -> b when false(c);", "var y: int when false(c); aux_1: bool when false(c); let x = a; aux_1 = true fby false; y = if aux_1 then a when false(c) else b when false(c); tel"},
	} {
		x.check(t)
	}
}

// TestCalled has calls, with reset conditions and without one.
func TestCalled(t *testing.T) {
	for _, x := range []example{
		{"x: int", "", "x = k();", "let x = k(); tel"},
		{"x: int", "", "x = g(a, c);", "let x = g(a, c); tel"},
		{"x: int; y: bool", "", "(x, y) = h(a + 1);", "let (x, y) = h(a + 1); tel"},
		{"x: int; y: bool", "", "(x, y) = h(0 fby a) every c;", "var aux_1: int; let aux_1 = 0 fby a; (x, y) = h(aux_1) every c; tel"},
		{"x: int", "", "x = g(if c then a else b, not d);", "let x = g(if c then a else b, not d); tel"},
		{"x: int", "", "x = g(g(a, c), '(10)');", "var aux_1: int; aux_2: bool; let aux_1 = g(a, c); aux_2 = '(10)'; x = g(aux_1, aux_2); tel"},
		{"x: int", "", "x = k() every c;", "let x = k() every c; tel"},
		{"x: int", "", "x = k() every true;", "var aux_1: bool; let aux_1 = true; x = k() every aux_1; tel"},
		{"x: int", "", "x = k() every (c and d);", "var aux_1: bool; let aux_1 = c and d; x = k() every aux_1; tel"},
		{"x: int", "", "x = k() every '(10)';", "var aux_1: bool; let aux_1 = '(10)'; x = k() every aux_1; tel"},
		{"x: int", "", "x = k() every (false fby c);", "var aux_1: bool; let aux_1 = false fby c; x = k() every aux_1; tel"},
		{"x: int", "", "x = 1 + g(2 fby a, c) every (c -> d);", "var aux_1: int; aux_2: bool; aux_3: bool; aux_4: int; let aux_1 = 2 fby a; aux_2 = true fby false; aux_3 = if aux_2 then c else d; aux_4 = g(aux_1, c) every aux_3; x = 1 + aux_4; tel"},
		{"x: int", "", "x = g(g(a, c) every d, d) every c + k();", "var aux_1: int; aux_2: int; aux_3: int; let aux_1 = g(a, c) every d; aux_2 = g(aux_1, d) every c; aux_3 = k(); x = aux_2 + aux_3; tel"},
		{"x: int", "y: int when Q(e)", "x = a; y = g(a when Q(e) + 1, c when Q(e)) every (d when Q(e));",
			"var y: int when Q(e); aux_1: bool when Q(e); let x = a; aux_1 = d when Q(e); y = g((a when Q(e)) + 1, c when Q(e)) every aux_1; tel"},
		{"x: int", "y: int when Q(e); z: bool when Q(e)", "x = a; (y, z) = h(-1) every false;", "var y: int when Q(e); z: bool when Q(e); aux_1: bool when Q(e); let x = a; aux_1 = false; (y, z) = h(-1) every aux_1; tel"},
		{"x: bool", "", "x = '(10)';", "let x = '(10)'; tel"},
	} {
		x.check(t)
	}
}

// TestNames is P19.1: what the added variables are named, in all nodes, and where they are declared.
func TestNames(t *testing.T) {
	for _, x := range []struct {
		program string
		want    []string // one for each node of the plain program
	}{
		{"node f(a: int) returns (x: int) var l: int; let x = 0 fby a + l; l = 0 fby a * 2; tel node g(a: int) returns (x: int) let x = 1 fby a + 1; tel",
			[]string{"var l: int; aux_1: int; aux_2: int; let aux_1 = a + l; x = 0 fby aux_1; aux_2 = a * 2; l = 0 fby aux_2; tel", "var aux_3: int; let aux_3 = a + 1; x = 1 fby aux_3; tel"}},
		{"type aux_1 = aux_3 | P; node aux_2(aux_4: int) returns (aux_7: int) var aux_5: int; let aux_5 = 0 fby aux_4 + 1; aux_7 = 0 fby aux_5 + 1; tel node f(aux_9: int) returns (aux_4: int) let aux_4 = 0 fby aux_9 + 1; tel",
			[]string{"var aux_5: int; aux_6: int; aux_8: int; let aux_6 = aux_4 + 1; aux_5 = 0 fby aux_6; aux_8 = aux_5 + 1; aux_7 = 0 fby aux_8; tel", "var aux_10: int; let aux_10 = aux_9 + 1; aux_4 = 0 fby aux_10; tel"}},
		{"node f(a: int) returns (x: int) let x = 0 fby a + 1; tel node aux_1(a: int) returns (x: int) let x = a; tel node g(aux_2: int) returns (aux_3: int) let aux_3 = aux_2; tel",
			[]string{"var aux_4: int; let aux_4 = a + 1; x = 0 fby aux_4; tel", "let x = a; tel", "let aux_3 = aux_2; tel"}}, // names of later nodes, too
		{"node f() returns (aux_01: int) var aux_0: int; aux_: int; aux: int; AUX_1: int; aux_1_1: int; let aux_0 = 1; aux_ = 1; aux = 1; AUX_1 = 1; aux_1_1 = 1; aux_01 = 0 fby aux_0 + 1; tel",
			[]string{"var aux_0: int; aux_: int; aux: int; AUX_1: int; aux_1_1: int; aux_1: int; let aux_0 = 1; aux_ = 1; aux = 1; AUX_1 = 1; aux_1_1 = 1; aux_1 = aux_0 + 1; aux_01 = 0 fby aux_1; tel"}},
		{"node f(c: bool) returns (x: int) let automaton state aux_1 var aux_2: int; do aux_2 = 1; x = aux_2; until c then aux_1; done end tel",
			[]string{"var aux_2: int; cond_1: bool; let aux_2 = 1; x = aux_2; cond_1 = c; next_1 = if cond_1 then at_1 else at_1; back_1 = if cond_1 then true else false; tel",
				"var was_1: mode_1; flag_1: bool; now_1: mode_1; reset_1: bool; part_1: int when at_1(now_1); next_2: mode_1 when at_1(now_1); back_2: bool when at_1(now_1); next_3: mode_1; back_3: bool; aux_1: bool when at_1(now_1); " +
					"let was_1 = at_1 fby next_3; flag_1 = false fby back_3; now_1 = merge was_1 (at_1 -> at_1); reset_1 = merge was_1 (at_1 -> flag_1 when at_1(was_1)); " +
					"aux_1 = reset_1 when at_1(now_1); (part_1, next_2, back_2) = body_1(c when at_1(now_1)) every aux_1; x = merge now_1 (at_1 -> part_1); next_3 = merge now_1 (at_1 -> next_2); back_3 = merge now_1 (at_1 -> back_2); tel"}}, // the plain program has no states
	} {
		n := normal(t, x.program, read(t, x.program))
		p := Back(n)
		if len(p.Nodes) != len(x.want) {
			t.Fatalf("%s: there are %d nodes", x.program, len(p.Nodes))
		}
		for i, want := range x.want {
			if l := text(t, p, i); l != want {
				t.Errorf("%s: the node %s has the normal form\n%s\nwant\n%s", x.program, p.Nodes[i].Name, l, want)
			}
		}
	}
}

// TestParts is P19.1: what has no equations of its own stays as it is, and claims are left out.
func TestParts(t *testing.T) {
	p := read(t, "type E = P | Q; type F = R; node f(a: int; e: E) returns (x: int; y: F) assume a > 0; ensure x > 0; let x = a; y = R; tel node g() returns (x: E) let x = Q; tel")
	n := normal(t, "two nodes", p)
	want := p
	want.Nodes[0].Assume, want.Nodes[0].Ensure = nil, nil
	if !shape.Same(Back(n), want) || len(n.Nodes) != 2 || len(n.Nodes[0].In) != 2 || len(n.Enums) != 2 {
		t.Errorf("the normal form is %v", n)
	}
	for _, p := range []api.Program{{}, {Enums: []api.Enum{{Name: "E", Tags: []string{"P"}}}}} {
		if n := normal(t, "no node", p); !shape.Same(Back(n), p) {
			t.Errorf("without nodes the normal form is %v", n)
		}
	}
	eqs := normal(t, "a delay", read(t, "node f(c: bool) returns (x: int) var y: bool when true(c); let x = 7 fby 8; y = pre (not (c when true(c))); tel")).Nodes[0].Eqs
	on := []api.On{{Name: "c", T: api.TBool, Tag: 1}}
	sampled := api.Expr{Kind: api.EWhen, Name: "c", T: api.TBool, V: 1, Args: variables("c")}
	if want := []api.NEq{
		{Kind: api.NDelay, Left: []string{"x"}, Right: number(8), Init: 7},
		{Kind: api.NDef, Left: []string{"aux_1"}, Right: api.Expr{Kind: api.EOp, Op: api.OpNot, Args: []api.Expr{sampled}}, Clock: on},
		{Kind: api.NDelay, Left: []string{"y"}, Right: variables("aux_1")[0], Clock: on},
	}; !slices.EqualFunc(eqs, want, sameEq) {
		t.Errorf("the equations are %v, want %v", eqs, want)
	}
}

// TestErrors is P19.1: programs that are not accepted.
func TestErrors(t *testing.T) {
	programs := []api.Program{
		{Nodes: []api.Node{{Name: "f"}}}, // without outputs
		{Nodes: make([]api.Node, api.MaxNodes+1)},
	}
	for _, s := range []string{
		"node f() returns (x: int) let x = y; tel",
		"node f() returns (x: int) let x = true; tel",
		"node f(a: int; c: bool) returns (x: int) let x = a when true(c); tel",
		"node f() returns (x: int) let x = pre x; tel",
		"node f() returns (x: int) let x = pre pre x; tel",
		"node f() returns (x: int) let x = x; tel",
		"node f(c: bool) returns (x: int) var y: int when true(c); let automaton state A do x = 1; y = 1; done end tel", // refused when it is expanded
	} {
		programs = append(programs, read(t, s))
	}
	for i, p := range programs {
		if n, e := Program(p); e != api.ErrProgram || !reflect.DeepEqual(n, api.NProgram{}) {
			t.Errorf("the program %d: error %d and %d nodes", i, int(e), len(n.Nodes))
		}
	}
}

// expectLimit checks that a program has a normal form only if it is small enough.
func expectLimit(t *testing.T, what, program string, fits bool) {
	t.Helper()
	n, e := Program(read(t, program))
	switch {
	case fits && (e != api.OK || Check(n) != api.OK):
		t.Errorf("%s: error %d, and Check returns %d", what, int(e), int(Check(n)))
	case !fits && (e != api.ErrLimit || !reflect.DeepEqual(n, api.NProgram{})):
		t.Errorf("%s: error %d and %d nodes, want ErrLimit", what, int(e), len(n.Nodes))
	}
}

// sum returns the text of a sum of n equal terms, which is not deep.
func sum(n int, term string) string {
	if n == 1 {
		return term
	}
	return "(" + sum(n/2, term) + " + " + sum(n-n/2, term) + ")"
}

// list returns numbered texts.
func list(n int, before, after, separator string) string {
	var l []string
	for i := range n {
		l = append(l, before+strconv.Itoa(i)+after)
	}
	return strings.Join(l, separator)
}

// TestLimits is P19.1: how large a normal form can be.
func TestLimits(t *testing.T) {
	const delay = "(0 fby a)"
	for _, more := range []int{0, 1} {
		s := "node f(a: int) returns (" + list(4, "x", ": int", "; ") + ") let x0 = 1; x1 = " + sum(84, delay) + "; x2 = " + sum(84, delay) + "; x3 = " + sum(84+more, delay) + "; tel node g() returns (x: int) let x = 1; tel"
		expectLimit(t, strconv.Itoa(256+more)+" equations", s, more == 0)

		s = "node h() returns (" + list(64, "l", ": int", "; ") + ") let " + list(64, "l", " = 1;", " ") + " tel node f(a: int) returns (x: int; y: int) var " + list(64, "l", ": int", "; ") +
			"; let (" + list(64, "l", "", ", ") + ") = h(); x = " + sum(96, delay) + "; y = " + sum(96+more, delay) + "; tel"
		expectLimit(t, strconv.Itoa(256+more)+" locals", s, more == 0)

		s = "node f(a: int) returns (x: int) let x = " + strings.Repeat("-(", 1+more) + sum(80, "(a -> a)") + strings.Repeat(")", 1+more) + "; tel"
		expectLimit(t, strconv.Itoa(400+more)+" expressions", s, more == 0)
	}
}
