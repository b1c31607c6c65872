package scope

import (
	"reflect"
	"strconv"
	"strings"
	"testing"

	"synchrony/api"
	"synchrony/shape"
)

// bend is a change of the full program, and the error that it causes.
type bend struct {
	what     string
	old, new string
	where    api.Where
	want     api.Errno
}

// bends are in the order in which the errors come.
func bends() []bend {
	enums, node := api.Where{Node: -1, Eq: -1}, api.Where{Node: 3, Eq: -1}
	eq := func(i int) api.Where { return api.Where{Node: 3, Eq: i} }
	return []bend{
		{"two types", "type Mode =", "type Light = Blue;\ntype Mode =", enums, api.ErrTwice},
		{"a tag of an earlier enumeration", "= On |", "= Amber | On |", enums, api.ErrTwice},
		{"a tag twice in an enumeration", "| Off;", "| Off | On;", enums, api.ErrTwice},
		{"two nodes", "node main(", "node f(", node, api.ErrTwice},
		{"two inputs", " f: bool; l: Light) returns (x: int; Mode", " a: bool; l: Light) returns (x: int; Mode", node, api.ErrTwice},
		{"an input like a tag", "node main(a: bool; f: bool;", "node main(a: bool; Off: bool;", node, api.ErrTwice},
		{"an output like an input", "(x: int; Mode: Mode)", "(l: int; Mode: Mode)", node, api.ErrTwice},
		{"an output like a tag", "Mode: Mode)", "Red: Mode)", node, api.ErrTwice},
		{"a local like an output", "n: Mode; u", "x: Mode; u", node, api.ErrTwice},
		{"two locals", "w: bool; two", "u: bool; two", node, api.ErrTwice},
		{"a local like a tag", "z: int;\n  assume", "On: int;\n  assume", node, api.ErrTwice},
		{"a sampling by no variable", "when true(a) when Red(l); n", "when true(i) when Red(l); n", node, api.ErrName},
		{"a second sampling by no variable", "when Red(l); n", "when Red(Light); n", node, api.ErrName},
		{"an equation of no variable", "x = merge", "main = merge", eq(0), api.ErrName},
		{"an equation of an input", "x = merge l", "f = merge l", eq(0), api.ErrTwice},
		{"a merge by no variable", "x = merge l", "x = merge k", eq(0), api.ErrName},
		{"no variable", "(Green -> m)", "(Green -> j)", eq(0), api.ErrName},
		{"a sampling by a node", "n when Green(l)", "n when Green(main)", eq(0), api.ErrName},
		{"a sampling of no variable", "(n when", "(last when", eq(0), api.ErrName},
		{"a call of no node", "f(w, Red)", "u(w, Red)", eq(0), api.ErrName},
		{"a call of a later node", " f(w, Red)", " last(w)", eq(0), api.ErrName},
		{"a call of the node itself", " f(w, Red)", " main(w, w, l)", eq(0), api.ErrName},
		{"too few arguments", " f(w, Red)", " f(w)", eq(0), api.ErrArity},
		{"too many arguments", " f(w, Red)", " f(w, w, Red)", eq(0), api.ErrArity},
		{"too few arguments with a condition", " f(w, Red)", " f(w) every w", eq(0), api.ErrArity},
		{"two outputs of an operand", " f(w, Red)", " pair(w)", eq(0), api.ErrArity},
		{"no variable as an argument", "f(w, Red)", "f(h, Red)", eq(0), api.ErrName},
		{"no variable in a delay", "(pre u)", "(pre S)", eq(0), api.ErrName},
		{"an equation defines a variable again", "(m, n) =", "(x, n) =", eq(1), api.ErrTwice},
		{"a second name is none", "(m, n) =", "(m, N) =", eq(1), api.ErrName},
		{"a name twice on the left", "(m, n) =", "(m, m) =", eq(1), api.ErrTwice},
		{"three names for two outputs", "(m, n) =", "(m, n, z) =", eq(1), api.ErrArity},
		{"one name for two outputs", "(m, n) = two", "m = two", eq(1), api.ErrArity},
		{"one output for two names", "(m, n) = two(a and not f)", "(m, n) = f(a, l)", eq(1), api.ErrArity},
		{"a right side without an argument", "two(a and not f)", "two()", eq(1), api.ErrArity},
		{"no variable in the argument", "two(a and not f)", "two(a and not i)", eq(1), api.ErrName},
		{"no variable as the condition", "every w;", "every k;", eq(1), api.ErrName},
		{"an equation of an earlier variable", "Mode = if", "m = if", eq(2), api.ErrTwice},
		{"no variable behind a choice", "(Off -> n)", "(Off -> T)", eq(2), api.ErrName},
		{"two states", "    state T", "    state S do done\n    state T", node, api.ErrTwice},
		{"a local of a state like a variable", "var k: bool", "var m: bool", node, api.ErrTwice},
		{"a local of a state like an input", "; j: int;\n      unless", "; f: int;\n      unless", node, api.ErrTwice},
		{"a local of a state like a local of it", "; j: int;\n      unless", "; k: int;\n      unless", node, api.ErrTwice},
		{"a local of a state like a tag", "var k: bool", "var Green: bool", node, api.ErrTwice},
		{"a local of a state with a sampling by no variable", "k: bool when true(a)", "k: bool when true(i)", node, api.ErrName},
		{"a local of a state with a second such sampling", "when Green(l); j", "when Green(f_1); j", node, api.ErrName},
		{"a state defines no variable", "      k = a;", "      i = a;", node, api.ErrName},
		{"a state defines an input", "      k = a;", "      a = a;", node, api.ErrTwice},
		{"a state defines what an equation does", "      k = a;", "      n = a;", node, api.ErrTwice},
		{"a state uses no variable", "      k = a;", "      k = i;", node, api.ErrName},
		{"a state calls a later node", "      k = a;", "      k = last(a);", node, api.ErrName},
		{"a state defines a variable twice", "(j, u) =", "(j, k) =", node, api.ErrTwice},
		{"a state calls for too few outputs", "(j, u) =", "u =", node, api.ErrArity},
		{"a state with a condition that is no variable", "every k);", "every h);", node, api.ErrName},
		{"two nested states", "        state a\n        do\n          two", "        state S do done\n        state a\n        do\n          two", node, api.ErrTwice},
		{"a nested local like an outer one", "var i: int when", "var k: int when", node, api.ErrTwice},
		{"a nested local like a variable", "var i: int when", "var Mode: int when", node, api.ErrTwice},
		{"a nested local like a tag", "var i: int when", "var Amber: int when", node, api.ErrTwice},
		{"a nested sampling by no variable", "when false(k);", "when false(h);", node, api.ErrName},
		{"a nested state defines what the outer one does", "          i = j;", "          k = j;", node, api.ErrTwice},
		{"a nested state uses no variable", "          i = j;", "          i = h;", node, api.ErrName},
		{"a nested state uses no variable in a delay", "w = pre k", "w = pre S", node, api.ErrName},
		{"an innermost local like an outer one", "var h: int", "var i: int", node, api.ErrTwice},
		{"an innermost local like another outer one", "var h: int", "var j: int", node, api.ErrTwice},
		{"an innermost state defines what a nested one does", "              two = h", "              i = h", node, api.ErrTwice},
		{"an innermost state defines what an outer one does", "              two = h", "              u = h", node, api.ErrTwice},
		{"an innermost state defines what an equation does", "              two = h", "              Mode = h", node, api.ErrTwice},
		{"an innermost condition of the state's own local", "unless i > 0 then", "unless h > 0 then", node, api.ErrName},
		{"an innermost condition of no variable", "until h > x then", "until H > x then", node, api.ErrName},
		{"an innermost call with two outputs", "until w continue main", "until pair(w) continue main", node, api.ErrArity},
		{"an innermost local that is not defined", "var h: int;", "var h: int; g2: int;", node, api.ErrNone},
		{"a nested condition of the state's own local", "unless k then a", "unless i > k then a", node, api.ErrName},
		{"a nested condition of a state's name", "until i = j then", "until S = j then", node, api.ErrName},
		{"a nested local that is not defined", "int when false(k);", "int when false(k); g1: int;", node, api.ErrNone},
		{"the other nested state uses a local of the first one", "two = f(k, l)", "two = f(i, l)", node, api.ErrName},
		{"the other nested state defines what an equation does", "          w = false;", "          x = false;", node, api.ErrTwice},
		{"a nested state defines less than the first one", "          w = false;\n", "", node, api.ErrNone},
		{"a nested state defines more than the first one", "          w = false;\n        done", "          w = false;\n          z = 0;\n        done", node, api.ErrNone},
		{"a nested state defines something else", "          w = false;\n        done", "          z = 0;\n        done", node, api.ErrNone},
		{"an automaton defines what the one before does", "z = two;", "w = two;", node, api.ErrTwice},
		{"a condition of the state's own local", "unless a and w", "unless j and w", node, api.ErrName},
		{"a second condition of the state's own local", "unless l = Red", "unless k = Red", node, api.ErrName},
		{"a condition of a local of a nested state", "until k and z > 0", "until i and z > 0", node, api.ErrName},
		{"a second condition of no variable", "until j > u continue S", "until j > h continue S", node, api.ErrName},
		{"a local that is not defined", "; j: int;\n      unless", "; j: int; g: int;\n      unless", node, api.ErrNone},
		{"the second state uses a local of the first one", "fby i + x", "fby j + x", node, api.ErrName},
		{"the second state calls with too few arguments", "pair(i);", "pair();", node, api.ErrArity},
		{"the second state defines a local of the first one", "      u = 0;", "      j = 0;", node, api.ErrName},
		{"the second state defines an output again", "      u = 0;", "      x = 0;", node, api.ErrTwice},
		{"the second state defines a variable again", "      u = 0;", "      w = 0;", node, api.ErrTwice},
		{"the second state has a condition of no variable", "until k > i continue S", "until k > h continue S", node, api.ErrName},
		{"the second state has a local that is not defined", "      k = i;\n", "", node, api.ErrNone},
		{"the second state defines less than the first one", "      two = 1;\n", "", node, api.ErrNone},
		{"an assumption of an output", "assume a and f;", "assume a and x;", node, api.ErrName},
		{"an assumption of a local", "assume a and f;", "assume m and f;", node, api.ErrName},
		{"a second assumption of no variable", "assume f(a, l) > 0", "assume f(a, i) > 0", node, api.ErrName},
		{"a second assumption calls no node", "assume f(a, l) > 0", "assume last(a) > 0", node, api.ErrName},
		{"a second assumption calls for two outputs", "assume f(a, l) > 0", "assume pair(a)", node, api.ErrArity},
		{"a guarantee of a local", "ensure x > f(f, l)", "ensure n > f(f, l)", node, api.ErrName},
		{"a guarantee with too many arguments", "ensure x > f(f, l)", "ensure x > f(f, l, l)", node, api.ErrArity},
		{"a second guarantee of a local", "ensure a or Mode", "ensure a or n", node, api.ErrName},
		{"an output that is not defined", "  Mode = if a then n else (Off -> n);\n", "", node, api.ErrNone},
		{"a local that is nowhere defined", "z: int;\n  assume", "z: int; v: int;\n  assume", node, api.ErrNone},
	}
}

// The tests of Check are P10.1.

func TestCheckExamples(t *testing.T) {
	expectCheck(t, "the example", read(t, "node f(a: int) returns (x: int) let x = b; tel"), api.Where{Node: 0, Eq: 0}, api.ErrName)
	expectCheck(t, "nothing", api.Program{}, api.Where{}, api.OK)
	expectCheck(t, "the full program", full(t), api.Where{}, api.OK)
	expectCheck(t, "count", read(t, "node count(r: bool) returns (n: int) let n = if r then 0 else (0 fby n) + 1; tel"), api.Where{}, api.OK)
}

// TestCheckErrors: each error alone.
func TestCheckErrors(t *testing.T) {
	for _, b := range bends() {
		p := full(t, b.old, b.new)
		before := deepCopy(p)
		expectCheck(t, b.what, p, b.where, b.want)
		if !reflect.DeepEqual(p, before) {
			t.Errorf("%s: the program became another one", b.what)
		}
	}
}

// TestCheckOrder: of two errors, the one that the chapter names first is returned.
func TestCheckOrder(t *testing.T) {
	l := bends()
	done := 0
	for i, first := range l {
		for j := i + 1; j < len(l); j += 1 + (j-i)/8 {
			if p, ok := both(t, first, l[j]); ok {
				expectCheck(t, first.what+" and "+l[j].what, p, first.where, first.want)
				done++
			}
		}
	}
	if done < 1500 {
		t.Errorf("only %d pairs", done)
	}
}

// TestCheckNodes: the errors of a node come before those of the next one.
func TestCheckNodes(t *testing.T) {
	for _, b := range bends() {
		p := full(t, b.old, b.new)
		p.Nodes[4].Eqs[0].Right = variable("none")
		expectCheck(t, b.what, p, b.where, b.want)
		if b.where.Node < 0 {
			continue
		}
		p.Nodes[4].Name, p.Nodes[4].Eqs = "f", nil
		expectCheck(t, b.what, p, b.where, b.want)
		p.Nodes[2].Eqs[1].Right = variable("none")
		expectCheck(t, b.what, p, api.Where{Node: 2, Eq: 1}, api.ErrName)
	}
}

// TestCheckShape: the errors of shape.Check come first, with their places.
func TestCheckShape(t *testing.T) {
	for _, b := range bends() {
		p := full(t, b.old, b.new)
		p.Nodes[4].Eqs[0].Right = with(api.EPre)
		expectCheck(t, b.what, p, api.Where{Node: 4, Eq: 0}, api.ErrForm)
		p.Nodes[4].Out = nil
		expectCheck(t, b.what, p, api.Where{Node: 4, Eq: -1}, api.ErrNone)
		p.Enums[1].Name = "if"
		expectCheck(t, b.what, p, api.Where{Node: -1, Eq: -1}, api.ErrName)
	}
	deep := variable("a")
	for range api.MaxDepth {
		deep = with(api.EPre, deep)
	}
	for _, e := range []api.Expr{{}, {Kind: api.EState, Name: "a"}, variable("1"), {Kind: api.EConst, T: api.TEnum + 2}, deep} {
		p := full(t)
		p.Nodes[1].Eqs[1].Right = e
		expectCheck(t, "a wrong right side", p, api.Where{Node: 1, Eq: 1}, shape.Expr(p.Enums, e))
	}
}

// TestCheckKinds: names of different kinds may be equal, but for those of variables and tags.
func TestCheckKinds(t *testing.T) {
	expectCheck(t, "a type like a tag", read(t, "type X = X | Y;"), api.Where{}, api.OK)
	expectCheck(t, "a node like a tag", read(t, "type X = X | Y; node Y(a: int) returns (Z: int) let Z = a; tel node Z(Z: X) returns (a: int) let a = Y(Y); tel"), api.Where{}, api.OK)
	expectCheck(t, "a variable like a later tag", read(t, "type X = A; type Y = B; node f(B: int) returns (x: int) let x = 0; tel"), api.Where{Node: 0, Eq: -1}, api.ErrTwice)
	expectCheck(t, "states like all else", read(t, "type X = A; node f(a: int) returns (x: int) let automaton state A do x = a; done state X do x = a; done state f do x = a; done state a do x = a; done end tel"), api.Where{}, api.OK)
}

// TestCheckLocals: first the names of all locals of a state, then their samplings; both can be those of later locals, and of all variables around.
func TestCheckLocals(t *testing.T) {
	text := func(node, outer, inner string) string {
		return "type E = T; node f(a: bool) returns (x: int) var " + node + " let m = a; automaton state S var " + outer +
			" do k = a; automaton state S var " + inner + " do i = a; j = a; x = 0; done end done end tel"
	}
	none := api.Where{Node: 0, Eq: -1}
	for _, c := range []struct {
		node, outer, inner string
		where              api.Where
		want               api.Errno
	}{
		{"m: bool;", "k: bool;", "i: int when true(j); j: bool;", api.Where{}, api.OK},
		{"m: bool;", "k: bool;", "i: int when true(i); j: bool;", api.Where{}, api.OK},
		{"m: bool;", "k: bool;", "i: int when true(k); j: int when true(m) when false(a) when true(x);", api.Where{}, api.OK},
		{"m: int when true(m);", "k: bool when true(m) when true(k);", "i: bool; j: bool;", api.Where{}, api.OK},
		{"m: int when true(k);", "k: bool;", "i: bool; j: bool;", none, api.ErrName},
		{"m: bool;", "k: bool when true(i);", "i: bool; j: bool;", none, api.ErrName},
		{"m: bool;", "k: bool;", "i: int when true(n); j: bool; T: int;", none, api.ErrTwice},
		{"m: bool;", "k: bool;", "i: int when true(n); j: bool; j: int;", none, api.ErrTwice},
		{"m: int when true(n); T: int;", "k: bool;", "i: int; j: bool;", none, api.ErrTwice},
		{"m: int when true(n); m: int;", "k: bool;", "i: int; j: bool;", none, api.ErrTwice},
	} {
		expectCheck(t, c.node+c.outer+c.inner, read(t, text(c.node, c.outer, c.inner)), c.where, c.want)
	}
}

// TestCheckReset: with a reset condition a call has one argument more.
func TestCheckReset(t *testing.T) {
	for i, c := range []struct {
		inputs, args int
		every        int
		want         api.Errno
	}{
		{0, 0, 0, api.OK}, {0, 1, 0, api.ErrArity}, {0, 1, 1, api.OK}, {0, 2, 1, api.ErrArity},
		{1, 0, 0, api.ErrArity}, {1, 1, 0, api.OK}, {1, 1, 1, api.ErrArity}, {1, 2, 0, api.ErrArity}, {1, 2, 1, api.OK}, {1, 3, 1, api.ErrArity},
		{3, 3, 0, api.OK}, {3, 3, 1, api.ErrArity}, {3, 4, 0, api.ErrArity}, {3, 4, 1, api.OK},
	} {
		f := api.Node{Name: "f", In: decls("a", "b", "c")[:c.inputs], Out: decls("x"), Eqs: eqs("x")}
		e := call("f")
		for range c.args {
			e.Args = append(e.Args, number(1))
		}
		e.V = c.every
		g := api.Node{Name: "g", Out: decls("x"), Eqs: []api.Eq{eq(e, "x")}}
		where := api.Where{Node: 1, Eq: 0}
		if c.want == api.OK {
			where = api.Where{}
		}
		expectCheck(t, "the call "+string(rune('a'+i)), api.Program{Nodes: []api.Node{f, g}}, where, c.want)
	}
}

// numbered returns n names.
func numbered(base string, n int) []string {
	var l []string
	for i := range n {
		l = append(l, base+strconv.Itoa(i))
	}
	return l
}

// TestCheckMost has the most nodes, variables, enumerations and states.
func TestCheckMost(t *testing.T) {
	var p api.Program
	for i, name := range numbered("E", api.MaxEnums) {
		p.Enums = append(p.Enums, api.Enum{Name: name, Tags: numbered("T"+strconv.Itoa(i)+"_", api.MaxTags)})
	}
	for i, name := range numbered("f", api.MaxNodes) {
		n := api.Node{Name: name, In: decls(numbered("a", api.MaxPorts)...), Out: decls(numbered("x", api.MaxPorts)...), Locals: decls(numbered("m", api.MaxLocals)...)}
		e := call("f" + strconv.Itoa(i-1))
		for _, a := range n.In {
			e.Args = append(e.Args, variable(a.Name))
		}
		if i == 0 {
			n.Eqs = eqs(numbered("x", api.MaxPorts)...)
		} else {
			n.Eqs = []api.Eq{eq(e, numbered("x", api.MaxPorts)...)}
		}
		var a api.Auto
		for _, s := range numbered("S", api.MaxStates) {
			l := numbered("k", api.MaxLocals)
			inner := auto(state("S", decls("i"), eqs(append(numbered("k", api.MaxLocals-1), "i")...)))
			a.States = append(a.States, state(s, decls(l...), eqs(append(numbered("m", api.MaxLocals-1), l[api.MaxLocals-1])...), inner))
		}
		n.Autos = []api.Auto{a, auto(state("S", nil, eqs("m255")))}
		p.Nodes = append(p.Nodes, n)
	}
	expectCheck(t, "the most of all", p, api.Where{}, api.OK)
	last := &p.Nodes[api.MaxNodes-1]
	last.Autos[1].States[0].Eqs[0].Left[0] = "m254"
	expectCheck(t, "a local that is defined twice, and one that is not", p, api.Where{Node: api.MaxNodes - 1, Eq: -1}, api.ErrTwice)
	last.Autos = last.Autos[:1]
	expectCheck(t, "a local that is not defined", p, api.Where{Node: api.MaxNodes - 1, Eq: -1}, api.ErrNone)
}

// both returns the full program with both changes, if each one can be made after the other or before it.
func both(t *testing.T, a, b bend) (api.Program, bool) {
	t.Helper()
	for _, l := range [][2]bend{{a, b}, {b, a}} {
		s := strings.Replace(fullText, l[0].old, l[0].new, 1)
		if strings.Count(s, l[1].old) == 1 {
			return read(t, strings.Replace(s, l[1].old, l[1].new, 1)), true
		}
	}
	return api.Program{}, false
}
