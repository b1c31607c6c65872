package starts

import (
	"slices"
	"strconv"
	"strings"
	"testing"

	"synchrony/api"
)

// bend is a change of the full program that makes its initialization wrong.
type bend struct {
	old, new string
	where    api.Where
}

// bends are in the order in which their errors come.
func bends() []bend {
	at := func(node, eq int) api.Where { return api.Where{Node: node, Eq: eq} }
	return []bend{
		{"lateA = pre a", "lateA = pre pre a", at(1, 0)},
		{"lateA = pre a", "lateA = pre lateA", at(1, 0)},
		{"x = 0 -> lateA", "x = 0 -> pre lateA", at(1, 1)},
		{"y = 1;", "y = lateA;", at(1, -1)},
		{"ensure y > 0", "ensure y > pre y", at(1, -1)},
		{"ensure y > 0", "ensure y > (0 -> pre pre y)", at(1, -1)},
		{"z = 0 -> lateM", "z = lateM -> 0", at(2, 0)},
		{"z = 0 -> lateM", "z = 0 -> pre lateM", at(2, 0)},
		{"z = 0 -> lateM", "z = lateM fby 0", at(2, 0)},
		{"z = 0 -> lateM", "z = 0 fby lateM", at(2, 0)},
		{"z = 0 -> lateM", "z = sub(lateM, c)", at(2, 0)},
		{"z = 0 -> lateM", "z = sub(0, lateK)", at(2, 0)},
		{"z = 0 -> lateM", "z = sub(0, c) every lateK", at(2, 0)},
		{"z = 0 -> lateM", "z = merge lateK (true -> 0) (false -> 0)", at(2, 0)},
		{"z = 0 -> lateM", "z = merge lateH (P -> 0) (Q -> 0)", at(2, 0)},
		{"z = 0 -> lateM", "z = merge c (true -> lateU) (false -> 0)", at(2, 0)},
		{"z = 0 -> lateM", "z = merge c (true -> 0) (false -> lateV)", at(2, 0)},
		{"z = 0 -> lateM", "z = if c then 0 else 1 + (0 fby lateM)", at(2, 0)},
		{"lateM = pre a", "lateM = pre pre a", at(2, 1)},
		{"not c and", "pre lateK and", at(2, 2)},
		{"if lateK then", "if pre lateK then", at(2, 3)},
		{"then P else e", "then P fby lateH else e", at(2, 3)},
		{"lateU = lateM when", "lateU = pre lateM when", at(2, 4)},
		{"pre (z when false(c))", "pre (lateM when false(c))", at(2, 5)},
		{"else 1", "else lateV -> 1", at(2, 5)},
		{"true -> 5 -> lateU", "true -> lateU", at(2, 6)},
		{"(false -> 0)", "(false -> lateV)", at(2, 6)},
		{"y = false fby", "y = lateK fby", at(2, 7)},
		{"fby c or", "fby lateK or", at(2, 7)},
		{"d = true -> lateU", "d = true -> pre lateU", at(2, 8)},
		{"d = true -> lateU", "d = lateU", at(2, 9)},
		{"w = z when", "w = sub(lateM, c) when", at(2, 9)},
		{"lateW = lateU when", "lateW = pre lateU when", at(2, 10)},
		{"two(z)", "two(lateM)", at(2, 11)},
		{"every (false fby y)", "every lateK", at(2, 11)},
		{"every (false fby y)", "every (false fby lateK)", at(2, 11)},
		{"q = sub(a, c)", "q = sub(lateM, c)", at(2, 12)},
		{"r = e ->", "r = lateH ->", at(2, 13)},
		{"(P -> lateH)", "(lateH -> P)", at(2, 13)},
		{"r = e -> (P -> lateH)", "r = lateH", at(2, -1)},
		{"x = merge c (true -> 5 -> lateU) (false -> 0)", "x = if c then lateM else 0", at(2, -1)},
		{"x = merge c (true -> 5 -> lateU) (false -> 0)", "x = pre z", at(2, -1)},
		{"assume c or a > 0", "assume c or pre a > 0", at(2, -1)},
		{"assume true -> pre c", "assume true -> pre pre c", at(2, -1)},
		{"ensure x > 0", "ensure if pre y then y else c", at(2, -1)},
		{"(true -> pre x > 0)", "(true -> (0 fby pre x) > 0)", at(2, -1)},
		{"x = 0 fby a", "x = pre a fby a", at(3, 0)},
		{"x = 0 fby a", "x = pre a", at(3, -1)},
	}
}

// The tests of Check are P13.1.

func TestCheckExamples(t *testing.T) {
	text := func(eqs string) string { return "node f(a: int) returns (x: int) let " + eqs + " tel" }
	expectCheck(t, "the example", text("x = pre a;"), api.Where{Eq: -1}, api.ErrInit)
	expectCheck(t, "the example", text("x = pre pre a;"), api.Where{}, api.ErrInit)
	expectCheck(t, "the example", text("x = 0 -> pre a;"), api.Where{}, api.OK)
	expectCheck(t, "DOC.md, 2", text("x = pre x + 1;"), api.Where{}, api.ErrInit)
	expectCheck(t, "DOC.md, 2", text("x = 0 -> pre x + 1;"), api.Where{}, api.OK)
	expectCheck(t, "DOC.md, 3", text("x = x + 1;"), api.Where{}, api.OK) // a cycle is found by cause
	expectCheck(t, "DOC.md, 1", "node count(r: bool) returns (n: int) let n = if r then 0 else (0 fby n) + 1; tel", api.Where{}, api.OK)
	expectCheck(t, "the full program", fullText, api.Where{}, api.OK)
	expectCheckOf(t, "nothing", api.Program{}, api.Where{}, api.OK)
}

// TestCheckErrors: each error alone.
func TestCheckErrors(t *testing.T) {
	for _, b := range bends() {
		expectCheck(t, b.new, changed(t, fullText, b.old, b.new), b.where, api.ErrInit)
	}
}

// TestCheckOrder: of two errors, the first one is returned; they can be told apart by their places.
func TestCheckOrder(t *testing.T) {
	l := bends()
	done := 0
	for i, first := range l {
		for _, second := range l[i+1:] {
			if s := changed(t, fullText, first.old, first.new); strings.Count(s, second.old) == 1 {
				expectCheck(t, first.new+" and "+second.new, changed(t, s, second.old, second.new), first.where, api.ErrInit)
				done++
			}
		}
	}
	if done < 850 {
		t.Errorf("only %d pairs", done)
	}
}

// TestCheckFirst: the errors of plain and of clocks.Check come first, with their places.
func TestCheckFirst(t *testing.T) {
	for _, b := range bends() {
		text := changed(t, fullText, b.old, b.new)
		expectCheck(t, b.new, text+"node more(a: bool) returns (x: bool) let x = a when true(a); tel", api.Where{Node: 4}, api.ErrClock)
		expectCheck(t, b.new, text+"node more(a: bool) returns (x: int) let x = a; tel", api.Where{Node: 4}, api.ErrType)
		expectCheck(t, b.new, text+"node more(a: bool) returns (x: int) let tel", api.Where{Node: 4, Eq: -1}, api.ErrNone)
		expectCheck(t, b.new, text+"node more() returns (x: int) let automaton state S do x = 1; done end tel", api.Where{Node: -1, Eq: -1}, api.ErrArg)
		p := read(t, text)
		p.Nodes[3].Out = nil
		expectCheckOf(t, b.new, p, api.Where{Node: 3, Eq: -1}, api.ErrNone)
		p.Nodes[3].Autos = []api.Auto{{}}
		expectCheckOf(t, b.new, p, api.Where{Node: -1, Eq: -1}, api.ErrArg)
	}
	p := read(t, fullText)
	p.Nodes[3].Autos = []api.Auto{}
	expectCheckOf(t, "no automaton", p, api.Where{}, api.OK)
}

// context is an expression with a part #. Some are late if this part is, and some misuse it then.
type context struct {
	text          string
	late, misused bool
}

// contexts are of the type int and on the base clock.
func contexts() []context {
	return []context{
		{"#", true, false}, {"# + 1", true, false}, {"1 - #", true, false}, {"-(#)", true, false}, {"2 * # * 3", true, false},
		{"if # > 0 then 0 else 0", true, false}, {"if c then # else 0", true, false}, {"if c then 0 else #", true, false}, {"if not (c and 1 - # = 0) then 1 else 0", true, false},
		{"0 -> #", false, false}, {"0 -> 1 + #", false, false}, {"# -> 0", false, true}, {"(1 + #) -> 0", false, true}, {"# -> #", false, true}, {"0 -> # -> 0", false, true},
		{"0 -> pre #", false, true}, {"0 -> pre (1 + #)", false, true}, {"0 -> pre (0 -> #)", false, false}, {"1 + (0 -> -(#))", false, false},
		{"# fby 0", false, true}, {"0 fby #", false, true}, {"0 fby if c then # else 1", false, true}, {"0 fby (0 -> #)", false, false}, {"# fby #", false, true},
		{"sub(#, c)", false, true}, {"sub(0, # > 0)", false, true}, {"sub(0, c) every (# > 0)", false, true}, {"sub(# -> 0, c)", false, true}, {"sub(0 -> #, c) every (true -> # = 0)", false, false},
		{"merge c (true -> # when true(c)) (false -> 0)", false, true}, {"merge c (true -> 0) (false -> # when false(c))", false, true}, {"merge c (true -> 1 + (# when true(c))) (false -> 0)", false, true},
		{"merge c (true -> 0 -> # when true(c)) (false -> (0 -> #) when false(c))", false, false}, {"merge e (P -> 0) (Q -> (1 + #) when Q(e))", false, true},
	}
}

// misuse is not late, but there is a misuse in it.
const misuse = "(0 -> pre pre a)"

// TestCheckContexts has parts that are late, not late, and wrong, in equations and claims.
func TestCheckContexts(t *testing.T) {
	text := func(local, assume, ensure string) string {
		return "type E = P | Q; node sub(a: int; b: bool) returns (s: int) let s = a; tel node f(a: int; c: bool; e: E) returns (x: int) var probe: int; m: int; k: int;" +
			" assume " + assume + " > 0; ensure " + ensure + " > 0; let x = 0 -> probe; k = m; probe = " + local + "; m = pre a; tel"
	}
	check := func(what string, wrong bool, eq int, s string) {
		t.Helper()
		if wrong {
			expectCheck(t, what, s, api.Where{Node: 1, Eq: eq}, api.ErrInit)
		} else {
			expectCheck(t, what, s, api.Where{}, api.OK)
		}
	}
	for _, c := range contexts() {
		for _, part := range []string{"1", "a", "(0 -> pre a)", "(0 -> m)", "sub(a, c)", "(if '(01)' then a else 0)", "(a fby a)", "(pre a)", "(if c then 1 else pre a)", "m", "k", misuse, "(pre m)"} {
			late := part == "(pre a)" || part == "(if c then 1 else pre a)" || part == "m" || part == "k" || part == "(pre m)"
			e := strings.ReplaceAll(c.text, "#", part)
			wrong := late && c.misused || part == misuse || part == "(pre m)"
			check("the equation "+e, wrong, 2, text(e, "1", "1"))
			if strings.Contains(part, "m") || part == "k" {
				continue // claims cannot use locals
			}
			wrong = wrong || late && c.late
			check("the assumption "+e, wrong, -1, text("1", "("+e+")", "1"))
			check("the guarantee "+e, wrong, -1, text("1", "1", "("+e+")"))
		}
	}
}

// TestCheckSamplings has late clock variables in declarations, in samplings and in merges.
func TestCheckSamplings(t *testing.T) {
	text := func(k, h, clock, right string) string {
		return "type E = P | Q; node f(a: int; c: bool; e: E) returns (x: int) var z: int" + clock + "; k: bool; l: bool when true(k); h: E; let x = 1; z = " + right + "; k = " + k + "; l = true; h = " + h + "; tel"
	}
	for _, c := range []struct {
		k, h, clock, right string
		where              api.Where
		want               api.Errno
	}{
		{"c", "e", " when true(k)", "1", api.Where{}, api.OK},
		{"c", "e", " when true(k)", "a when true(k)", api.Where{}, api.OK},
		{"true -> pre c", "e", " when true(k)", "a when true(k)", api.Where{}, api.OK},
		{"pre c", "e", "", "1", api.Where{Eq: -1}, api.ErrInit},
		{"pre c", "e", " when true(k)", "1", api.Where{Eq: -1}, api.ErrInit},
		{"pre c", "e", " when true(k)", "a when true(k)", api.Where{Eq: 1}, api.ErrInit},
		{"pre c", "e", " when true(k) when false(l)", "(a when true(k)) when false(l)", api.Where{Eq: 1}, api.ErrInit},
		{"pre c", "e", " when true(k) when false(l)", "1 when false(l)", api.Where{Eq: -1}, api.ErrInit},
		{"c", "pre e", "", "1", api.Where{}, api.OK},
		{"c", "pre e", " when Q(h)", "1", api.Where{Eq: -1}, api.ErrInit},
		{"c", "pre e", " when Q(h)", "a when Q(h)", api.Where{Eq: 1}, api.ErrInit},
		{"c", "pre e", "", "merge h (P -> 1) (Q -> 2)", api.Where{Eq: 1}, api.ErrInit},
		{"c", "e -> pre e", "", "merge h (P -> 1) (Q -> 2)", api.Where{}, api.OK},
		{"c", "if pre c then P else Q", " when true(k)", "merge l (true -> 0) (false -> 0)", api.Where{}, api.OK},
	} {
		expectCheck(t, c.k+", "+c.h+c.clock+" "+c.right, text(c.k, c.h, c.clock, c.right), c.where, c.want)
	}
}

// TestCheckNodes: lateness does not leave its node, neither by a call nor by equal names.
func TestCheckNodes(t *testing.T) {
	head := "node f(x: int) returns (y: int) var m: int; let m = pre x; y = 0 -> m; tel "
	expectCheck(t, "a variable with the name of a late one", head+"node g(y: int) returns (m: int; z: int) let m = y; z = 0 fby m; tel", api.Where{}, api.OK)
	expectCheck(t, "a call", head+"node g(x: int) returns (y: int) let y = 0 fby f(x); tel", api.Where{}, api.OK)
	expectCheck(t, "a late output of a called node", "node f(x: int) returns (y: int) let y = pre x; tel node g(x: int) returns (y: int) let y = f(x); tel", api.Where{Eq: -1}, api.ErrInit)
}

// large returns a program of some nodes that have the most equations, almost the longest ones. The lateness of each local depends on that of the next one.
func large(t *testing.T, nodes int) api.Program {
	t.Helper()
	const last = api.MaxEqs - 2
	decls, eqs := "", ""
	for i := range last {
		decls += "v" + strconv.Itoa(i) + ": int; "
		eqs += "v" + strconv.Itoa(i) + " = v" + strconv.Itoa(i+1) + "; "
	}
	n := strconv.Itoa(last)
	p := read(t, "node f(a: int) returns (x: int) var "+decls+"v"+n+": int; let x = 0 -> v0; "+eqs+"v"+n+" = pre a; tel")
	for i := range last {
		e := &p.Nodes[0].Eqs[1+i].Right
		for range 7 {
			*e = api.Expr{Kind: api.EOp, Op: api.OpAdd, Args: []api.Expr{*e, *e}}
		}
	}
	for i := 1; i < nodes; i++ {
		n := p.Nodes[0]
		n.Name += strconv.Itoa(i)
		n.Eqs = slices.Clone(n.Eqs)
		p.Nodes = append(p.Nodes, n)
	}
	return p
}

// TestLarge is P13.1 to P13.3 for large programs; it would take very long if all expressions were visited for each variable.
func TestLarge(t *testing.T) {
	const nodes = 10
	p := large(t, nodes)
	var names []string
	for _, d := range p.Nodes[0].Locals {
		names = append(names, d.Name)
	}
	expectCheckOf(t, "a large program", p, api.Where{}, api.OK)
	expectLate(t, "a large program", p, nodes-1, names, api.OK)
	expectOf(t, "a large program", p, 0, p.Nodes[0].Eqs[1].Right, true, api.OK)
	last := &p.Nodes[nodes-1]
	last.Eqs[0].Right = readExpr(t, p, "v0 -> 0")
	expectCheckOf(t, "a large program with an error", p, api.Where{Node: nodes - 1}, api.ErrInit)
	last.Eqs[api.MaxEqs-1].Right = readExpr(t, p, "0 -> pre a")
	expectLate(t, "a node without late variables", p, nodes-1, nil, api.OK)
	expectCheckOf(t, "a program without errors", p, api.Where{}, api.OK)
}
