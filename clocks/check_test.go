package clocks

import (
	"reflect"
	"strconv"
	"strings"
	"testing"

	"synchrony/api"
)

// bend is a change of the full program that makes a clock wrong.
type bend struct {
	old, new string
	where    api.Where
}

// bends are in the order in which their errors come.
func bends() []bend {
	at := func(node, eq int) api.Where { return api.Where{Node: node, Eq: eq} }
	return []bend{
		{"k: int when true(a)", "k: int when true(c)", at(0, -1)},
		{"k: int when true(a)", "k: int when true(y) when true(k)", at(0, -1)},
		{"x = merge a", "x = merge y", at(0, 0)},
		{"(false -> 2)", "(false -> k)", at(0, 0)},
		{"y = not a", "y = not (a when true(a))", at(0, 1)},
		{"k = c when true(a)", "k = c when false(a)", at(0, 2)},
		{"ensure x > c", "ensure x > (c when true(a))", at(0, -1)},
		{"y: int when true(c)", "y: int when true(a)", at(2, -1)},
		{"y: int when true(c)", "y: int when Red(c)", at(2, -1)},
		{"y: int when true(c)", "y: int when true(y)", at(2, -1)},
		{"w: int when true(c) when false(d)", "w: int when false(d)", at(2, -1)},
		{"w: int when true(c) when false(d)", "w: int when false(c) when false(d)", at(2, -1)},
		{"w: int when true(c) when false(d)", "w: int when false(d) when true(c)", at(2, -1)},
		{"w: int when true(c) when false(d)", "w: int when true(m) when false(d)", at(2, -1)},
		{"v: bool when true(c) when false(d)", "v: bool when true(c) when true(c)", at(2, -1)},
		{"v: bool when true(c) when false(d)", "v: bool when true(c) when false(v)", at(2, -1)},
		{"d: bool when true(c)", "d: bool", at(2, -1)},
		{"d: bool when true(c)", "d: bool when true(m)", at(2, -1)},
		{"r: Light when Green(l)", "r: Light when true(l)", at(2, -1)},
		{"r: Light when Green(l)", "r: Light when Red(l)", at(2, -1)},
		{"u: int when Green(l) when Red(r)", "u: int when Green(l) when true(r)", at(2, -1)},
		{"b: bool when true(c);", "b: bool when true(g);", at(2, -1)},
		{"x = merge c (true -> y", "x = merge d (true -> y", at(2, 0)},
		{"x = merge c (true -> y", "x = merge m (true -> y", at(2, 0)},
		{"true -> y + 1", "true -> z + 1", at(2, 0)},
		{"true -> y + 1", "true -> 1 + a", at(2, 0)},
		{"c when false(c)", "c when true(c)", at(2, 0)},
		{"if c when false(c)", "if c", at(2, 0)},
		{"then z else", "then y else", at(2, 0)},
		{"merge d (true", "merge b (true", at(2, 1)},
		{"(true -> '(01)')", "(true -> v)", at(2, 1)},
		{"(false -> v)", "(false -> d)", at(2, 1)},
		{"fby false)", "fby m)", at(2, 1)},
		{"pre (a when true(c))", "pre a", at(2, 2)},
		{"y fby 3", "x fby 3", at(2, 2)},
		{"y fby 3", "y fby z", at(2, 2)},
		{"z = 5;", "z = y;", at(2, 3)},
		{"w: int when true(c) when false(d)", "w: int when true(c)", at(2, 4)},
		{"w: int when true(c) when false(d)", "w: int when true(c) when true(d)", at(2, 4)},
		{"w: int when true(c) when false(d)", "w: int when Green(l) when Red(r)", at(2, 4)},
		{"pair(v, y", "pair(d, y", at(2, 4)},
		{"y when false(d)", "y when true(d)", at(2, 4)},
		{"y when false(d)", "y when false(b)", at(2, 4)},
		{"y when false(d)", "z when false(d)", at(2, 4)},
		{"every v;", "every d;", at(2, 4)},
		{"r = l when Green(l)", "r = l", at(2, 5)},
		{"r = l when Green(l)", "r = r when Green(l)", at(2, 5)},
		{"r = l when Green(l)", "r = l when Green(r)", at(2, 5)},
		{"sum(y, a when true(c))", "sum(y, a)", at(2, 6)},
		{"sum(y, a when true(c))", "sum(x, a when true(c))", at(2, 6)},
		{"every b >", "every c >", at(2, 6)},
		{"b = d -> not b", "b = m -> not b", at(2, 7)},
		{"b = d -> not b", "b = d -> not m", at(2, 7)},
		{"u = a when Green(l) when Red(r)", "u = a when Green(l) when Green(r)", at(2, 8)},
		{"u = a when Green(l) when Red(r)", "u = a when Green(l)", at(2, 8)},
		{"u = a when Green(l) when Red(r)", "u = a when Red(r) when Green(l)", at(2, 8)},
		{"u = a when Green(l) when Red(r)", "u = a when Green(l) when Green(l) when Red(r)", at(2, 8)},
		{"a when Red(l)", "a when Amber(l)", at(2, 9)},
		{"merge r (Red", "merge l (Red", at(2, 9)},
		{"(Red -> u)", "(Red -> a)", at(2, 9)},
		{"when Amber(r)", "when Red(r)", at(2, 9)},
		{"(Amber -> 3)", "(Amber -> y)", at(2, 9)},
		{"assume c;", "assume c when true(c);", at(2, -1)},
		{"assume sum(a, 1)", "assume sum(a when true(c), 1)", at(2, -1)},
		{"ensure x > a", "ensure x > a when true(m)", at(2, -1)},
		{"(true -> m when true(c))", "(true -> m)", at(2, -1)},
		{"pre m or", "pre (m when true(m)) or", at(2, -1)},
	}
}

// The tests of Check are P12.1.

func TestCheckExamples(t *testing.T) {
	head := "node f(a: int; c: bool) returns (x: int) var y: int when true(c); z: int when false(c); let y = a when true(c); z = 0; x = "
	expectCheck(t, "the example", read(t, head+"a + (a when true(c)); tel"), api.Where{Eq: 2}, api.ErrClock)
	expectCheck(t, "the example 1", read(t, head+"merge c (true -> y) (false -> z); tel"), api.Where{}, api.OK)
	expectCheck(t, "the example 1", read(t, head+"merge c (true -> a) (false -> z); tel"), api.Where{Eq: 2}, api.ErrClock)
	expectCheck(t, "the example 2", read(t, "node f(c: bool; d: bool) returns (x: int) var w: bool when true(c) when true(d); let w = true; x = 2; tel"), api.Where{Eq: -1}, api.ErrClock)
	expectCheck(t, "DOC.md, 5", read(t, "node f(a: int; b: int; c: bool) returns (x: int) let x = merge c (true -> a when true(c)) (false -> b when false(c)); tel"), api.Where{}, api.OK)
	expectCheck(t, "nothing", api.Program{}, api.Where{}, api.OK)
	expectCheck(t, "the full program", full(t), api.Where{}, api.OK)
}

// TestCheckErrors: each error alone.
func TestCheckErrors(t *testing.T) {
	for _, b := range bends() {
		p := full(t, b.old, b.new)
		before := deepCopy(p)
		expectCheck(t, b.new, p, b.where, api.ErrClock)
		if !reflect.DeepEqual(p, before) {
			t.Errorf("%s: the program became another one", b.new)
		}
	}
}

// TestCheckOrder: of two errors, the first one is returned; they can be told apart by their places.
func TestCheckOrder(t *testing.T) {
	l := bends()
	done := 0
	for i, first := range l {
		for _, second := range l[i+1:] {
			if s := strings.Replace(fullText, first.old, first.new, 1); strings.Count(s, second.old) == 1 {
				expectCheck(t, first.new+" and "+second.new, read(t, strings.Replace(s, second.old, second.new, 1)), first.where, api.ErrClock)
				done++
			}
		}
	}
	if done < 1500 {
		t.Errorf("only %d pairs", done)
	}
}

// TestCheckFirst: the errors of plain and of types.Check come first, with their places.
func TestCheckFirst(t *testing.T) {
	for _, b := range bends() {
		p := full(t, b.old, b.new)
		p.Nodes = append(p.Nodes, api.Node{Name: "last", Out: []api.Decl{{Name: "x", Type: api.TInt}}, Eqs: []api.Eq{eq(constant(api.TBool, 0), "x")}})
		expectCheck(t, b.new, p, api.Where{Node: 3, Eq: 0}, api.ErrType)
		p.Nodes[3].Eqs = nil
		expectCheck(t, b.new, p, api.Where{Node: 3, Eq: -1}, api.ErrNone)
		p.Nodes[3].Out = nil
		expectCheck(t, b.new, p, api.Where{Node: 3, Eq: -1}, api.ErrNone)
		p.Nodes[3].Name = "if"
		expectCheck(t, b.new, p, api.Where{Node: 3, Eq: -1}, api.ErrName)
		p.Nodes[3].Autos = []api.Auto{{}}
		expectCheck(t, b.new, p, api.Where{Node: -1, Eq: -1}, api.ErrArg)
	}
	p := full(t)
	p.Nodes[1].Autos = []api.Auto{{States: []api.State{{Name: "S"}}}}
	expectCheck(t, "an automaton", p, api.Where{Node: -1, Eq: -1}, api.ErrArg)
	p.Nodes[1].Autos = []api.Auto{}
	expectCheck(t, "no automaton", p, api.Where{}, api.OK)
}

// TestCheckLeft: all variables on the left have the same clock, also if the right side fits every clock.
func TestCheckLeft(t *testing.T) {
	text := func(a, b, c string) string {
		return "node three() returns (x: int; y: int; z: bool) let x = 1; y = 2; z = true; tel node f(i: bool; j: bool) returns (x: int) var a: int" +
			a + "; b: int" + b + "; c: bool" + c + "; let x = 0; (a, b, c) = three(); tel"
	}
	for _, on := range []string{"", " when true(i)", " when false(i)", " when true(j)", " when true(i) when true(j)"} {
		for _, other := range []string{"", " when true(i)", " when false(i)", " when true(j)"} {
			where, want := api.Where{Node: 1, Eq: 1}, api.ErrClock
			if on == other {
				where, want = api.Where{}, api.OK
			}
			if strings.HasSuffix(on, ") when true(j)") { // j is on another clock
				where = api.Where{Node: 1, Eq: -1}
			}
			for _, s := range []string{text(on, other, other), text(other, on, other), text(other, other, on)} {
				expectCheck(t, on+" and"+other, read(t, s), where, want)
			}
		}
	}
}

// TestCheckDeclared has the clocks of declarations: of each length, and with variables that are declared later.
func TestCheckDeclared(t *testing.T) {
	vars := "a: bool when true(i); b: bool when true(i) when false(a); c: bool when true(i) when false(a) when true(b); d: bool when true(i) when false(a) when true(b) when false(c)"
	text := func(k string) string {
		return "type E = P | Q; node f(i: bool; n: int; e: E) returns (x: bool; h: E) var k: bool" + k + "; " + vars + "; g: E when Q(h); let x = i; h = P; k = true; a = true; b = a when false(a) = false; c = true; d = true; g = Q; tel"
	}
	for _, k := range []string{
		"", " when false(x)", " when true(i)", " when P(e)", " when Q(h)", " when Q(h) when P(g)", " when true(i) when true(a)", " when true(i) when false(a) when false(b)",
		" when true(i) when false(a) when true(b) when true(c)",
	} {
		expectCheck(t, k, read(t, text(k)), api.Where{}, api.OK)
	}
	for _, k := range []string{
		" when true(n)", " when true(e)", " when P(i)", " when true(k)", " when true(a)", " when true(i) when true(i)", " when true(i) when true(k)", " when true(i) when true(b)", " when false(i) when true(a)", " when P(h) when P(g)", " when P(g)",
		" when true(i) when P(a)", " when true(i) when false(a) when true(c)", " when true(i) when true(a) when true(b)", " when true(i) when false(a) when true(b) when true(d)", " when true(i) when false(a) when false(b) when true(c)", " when true(i) when false(a) when true(b) when true(x)",
	} {
		expectCheck(t, k, read(t, text(k)), api.Where{Eq: -1}, api.ErrClock)
	}
	p := read(t, text(""))
	p.Nodes[0].Locals[0].Clock = append(p.Nodes[0].Locals[4].Clock[:4:4], isNot("d"))
	expectCheck(t, "five samplings", p, api.Where{Eq: -1}, api.ErrLimit)
	p = read(t, text(" when P(e)"))
	p.Nodes[0].Locals[0].Clock[0].T = api.TBool
	expectCheck(t, "a type without a tag", p, api.Where{Eq: -1}, api.ErrClock)
}

// TestCheckLimit: a merge on a clock of MaxClock samplings is an error, with the place of its expression.
func TestCheckLimit(t *testing.T) {
	text := func(d, right string) string {
		return "node f(i: bool) returns (x: bool) var a: bool when true(i); b: bool when true(i) when true(a); c: bool when true(i) when true(a) when true(b); d: bool when true(i) when true(a) when true(b)" + d + "; let x = i; a = true; b = true; d = " + right + "; c = true; tel"
	}
	merges := "merge c (true -> true) (false -> false)"
	expectCheck(t, "three samplings", read(t, text("", merges)), api.Where{}, api.OK)
	expectCheck(t, "four samplings", read(t, text(" when false(c)", "merge d (true -> true) (false -> false)")), api.Where{Eq: 3}, api.ErrLimit)
	expectCheck(t, "four samplings of another variable", read(t, text(" when false(c)", merges)), api.Where{Eq: 3}, api.ErrClock)
	expectCheck(t, "four samplings further inside", read(t, text("", "merge c (true -> true) (false -> merge c (true -> true) (false -> true))")), api.Where{Eq: 3}, api.ErrClock)
}

// TestCheckMost has the most nodes, variables and equations.
func TestCheckMost(t *testing.T) {
	var p api.Program
	for i := range api.MaxNodes {
		n := api.Node{Name: "f" + strconv.Itoa(i), In: []api.Decl{{Name: "c", Type: api.TBool}}, Out: []api.Decl{{Name: "x", Type: api.TBool}}}
		last := variable("c")
		for k := range api.MaxEqs - 1 {
			name := "v" + strconv.Itoa(k)
			d := api.Decl{Name: name, Type: api.TBool, Clock: []api.On{{Name: "c", T: api.TBool, Tag: k % 2}}}
			n.Locals = append(n.Locals, d)
			n.Eqs = append(n.Eqs, eq(operation(api.OpNot, when(d.Clock[0], last)), name))
			if k > 0 {
				even := (k - 1) / 2 * 2
				last = merge("c", api.TBool, variable("v"+strconv.Itoa(even)), variable("v"+strconv.Itoa(even+1)))
			}
		}
		n.Eqs = append(n.Eqs, eq(variable("c"), "x"))
		p.Nodes = append(p.Nodes, n)
	}
	expectCheck(t, "the most of all", p, api.Where{}, api.OK)
	p.Nodes[api.MaxNodes-1].Eqs[api.MaxEqs-1].Right = variable("v0")
	expectCheck(t, "the most of all, and an error", p, api.Where{Node: api.MaxNodes - 1, Eq: api.MaxEqs - 1}, api.ErrClock)
}
