package types

import (
	"reflect"
	"strings"
	"testing"

	"synchrony/api"
)

// bend is a change of the full program that makes a type wrong.
type bend struct {
	old, new string
	where    api.Where
}

// bends are in the order in which their errors come.
func bends() []bend {
	whole := api.Where{Node: 3, Eq: -1}
	at := func(node, eq int) api.Where { return api.Where{Node: node, Eq: eq} }
	return []bend{
		{"s = a >= 0", "s = l >= 0", at(0, 0)},
		{"and l <> Red", "and l <> On", at(0, 0)},
		{"  assume a > 0", "  assume a + 0", at(0, -1)},
		{"x = if a then 1 else 2", "x = a", at(1, 0)},
		{"a or m = On", "a or m = Red", at(1, 1)},
		{"then m else Off;", "then a else Off;", at(1, 1)},
		{"n = 0 fby n + 1", "n = false fby n + 1", at(2, 0)},
		{"x = merge l", "x = merge m", at(3, 0)},
		{"Red -> -i", "Red -> Amber", at(3, 0)},
		{"k mod 3", "k mod b", at(3, 0)},
		{"tick() *", "tick() every i *", at(3, 0)},
		{"pre u)", "pre w)", at(3, 0)},
		{"pair(not a", "pair(i", at(3, 1)},
		{"On -> m", "Red -> m", at(3, 1)},
		{"every b;", "every k;", at(3, 1)},
		{"(k, n) =", "(n, k) =", at(3, 1)},
		{"if b and '1(01)'", "if i and '1(01)'", at(3, 2)},
		{"and '1(01)'", "and '1(01)' + 1", at(3, 2)},
		{"else Off fby m", "else 0 fby m", at(3, 2)},
		{"else Off fby m", "else Off fby l", at(3, 2)},
		{"unless a and w", "unless a and l", whole},
		{"unless l = Red", "unless l", whole},
		{"c = sign(i, z)", "c = sign(z, i)", whole},
		{"xor b;", "xor z;", whole},
		{"(j, y) =", "(y, j) =", whole},
		{"pair(c, m)", "pair(c, j)", whole},
		{"unless c then", "unless j then", whole},
		{"unless y = On", "unless y = Red", whole},
		{"h = 1 -> pre h", "h = c -> pre h", whole},
		{"pre h + j", "pre h + y", whole},
		{"u = h;", "u = c;", whole},
		{"unless h < 0", "unless h * 0", whole},
		{"g = Green", "g = On", whole},
		{"then g else l", "then h else l", whole},
		{"until g = z", "until g = c", whole},
		{"until h = j", "until h - j", whole},
		{"u = tick()", "u = 0 = tick()", whole},
		{"every c;", "every j;", whole},
		{"l when On(y)", "l when true(y)", whole},
		{"(Off -> Amber)", "(Off -> Off)", whole},
		{"until false then", "until 0 then", whole},
		{"when true(c)", "when Red(c)", whole},
		{"'(10)' -> w", "'(10)' -> u", whole},
		{"until c and u", "until j and u", whole},
		{"until j = u", "until j = y", whole},
		{"c = 1 fby c", "c = true fby c", whole},
		{"u = c;\n      w", "u = w;\n      w", whole},
		{"b = not w", "b = not c", whole},
		{"z = z;", "z = m;", whole},
		{"until c > 3", "until c", whole},
		{"  assume a;", "  assume i;", whole},
		{"or sign(i, l);", "or sign(l, l);", whole},
		{"xor m = Off", "xor m", whole},
		{"ensure sign(x, Red)", "ensure sign(x, x)", whole},
		{"last = Light", "last = Light = 0", at(4, 0)},
	}
}

// changeScope makes all types of the last node right, and a name wrong.
func changeScope(p *api.Program) {
	p.Nodes[4].Eqs = []api.Eq{eq(variable("none"), "last")}
}

// The tests of Check that follow are of the section Check, on which P11.1 depends.

func TestCheckExamples(t *testing.T) {
	expectCheck(t, "the example", read(t, "node f() returns (x: bool) let x = 1; tel"), api.Where{}, api.ErrType)
	expectCheck(t, "a right one", read(t, "node f() returns (x: int) let x = 1; tel"), api.Where{}, api.OK)
	expectCheck(t, "nothing", api.Program{}, api.Where{}, api.OK)
	expectCheck(t, "the full program", full(t), api.Where{}, api.OK)
	expectCheck(t, "count", read(t, "node count(r: bool) returns (n: int) let n = if r then 0 else (0 fby n) + 1; tel"), api.Where{}, api.OK)
}

// TestCheckErrors: each error alone.
func TestCheckErrors(t *testing.T) {
	for _, b := range bends() {
		p := full(t, b.old, b.new)
		before := deepCopy(p)
		expectCheck(t, b.new, p, b.where, api.ErrType)
		if !reflect.DeepEqual(p, before) {
			t.Errorf("%s: the program became another one", b.new)
		}
	}
}

// TestCheckOrder: of two errors, the first one is returned; they can be told apart by their places.
func TestCheckOrder(t *testing.T) {
	l := bends()
	done := 0
	for i, first := range l {
		for _, second := range l[i+1:] {
			if s := strings.Replace(fullText, first.old, first.new, 1); strings.Count(s, second.old) == 1 {
				p := read(t, strings.Replace(s, second.old, second.new, 1))
				expectCheck(t, first.new+" and "+second.new, p, first.where, api.ErrType)
				done++
			}
		}
	}
	if done < 1200 {
		t.Errorf("only %d pairs", done)
	}
}

// TestCheckScope: the errors of scope.Check come first, with their places.
func TestCheckScope(t *testing.T) {
	for _, b := range bends() {
		p := full(t, b.old, b.new)
		changeScope(&p)
		expectCheck(t, b.new, p, api.Where{Node: 4, Eq: 0}, api.ErrName)
		p.Nodes[4].Eqs = nil
		expectCheck(t, b.new, p, api.Where{Node: 4, Eq: -1}, api.ErrNone)
		p.Nodes[4].Name = "tick"
		expectCheck(t, b.new, p, api.Where{Node: 4, Eq: -1}, api.ErrTwice)
		p.Nodes[4].Out = nil // an error of the shape
		expectCheck(t, b.new, p, api.Where{Node: 4, Eq: -1}, api.ErrNone)
		p.Enums[1].Tags[0] = "if"
		expectCheck(t, b.new, p, api.Where{Node: -1, Eq: -1}, api.ErrName)
	}
	for _, right := range []api.Expr{call("tick"), call("sign", variable("Light")), call("pair", constant(api.TBool, 1), constant(api.TEnum+1, 0))} {
		p := full(t)
		p.Nodes[4].Eqs[0] = eq(right, "last", "none")
		expectCheck(t, "a wrong number", p, api.Where{Node: 4, Eq: 0}, api.ErrName)
		p.Nodes[4].Eqs[0] = eq(operation(api.OpNeg, right), "last")
		want := api.ErrArity
		if right.Name == "tick" {
			want = api.OK
		}
		w, e := Check(p)
		if e != want || want != api.OK && w != (api.Where{Node: 4, Eq: 0}) {
			t.Errorf("%s: Check = %v, %d", right.Name, w, int(e))
		}
	}
}

// TestCheckClocks: samplings of declarations may be of any type here, and expressions on any clock.
func TestCheckClocks(t *testing.T) {
	expectCheck(t, "a sampling by a number", read(t, "node f(a: int) returns (x: int) var y: int when true(a); let y = 1; x = y + a; tel"), api.Where{}, api.OK)
	expectCheck(t, "undefined", read(t, "node f(a: bool) returns (x: int) let x = pre (1 when true(a)) + x; tel"), api.Where{}, api.OK)
}

// TestCheckStates: each state has an environment of its own.
func TestCheckStates(t *testing.T) {
	text := func(first, inner, second string) string {
		return `node f(a: int) returns (x: int) let automaton
			state S var k: ` + first + `; do k = k; automaton state S var h: ` + inner + `; do h = h; x = if h > 0 then k else a; until h = k then S; done end until k = a then S; done
			state T var k: ` + second + `; h: bool; do k = k; h = k; x = 0; until h and k then T; done
		end tel`
	}
	expectCheck(t, "right", read(t, text("int", "int", "bool")), api.Where{}, api.OK)
	for _, l := range [][3]string{{"bool", "int", "bool"}, {"int", "bool", "bool"}, {"int", "int", "int"}} {
		expectCheck(t, strings.Join(l[:], " "), read(t, text(l[0], l[1], l[2])), api.Where{Eq: -1}, api.ErrType)
	}
}

// TestCheckPlaces: a wrong type in each list of a state, where all lists have several elements.
func TestCheckPlaces(t *testing.T) {
	yes, no := constant(api.TBool, 1), constant(api.TInt, 1)
	build := func(wrong int) api.Program {
		k := -1
		next := func() api.Expr {
			if k++; k == wrong {
				return no
			}
			return yes
		}
		trans := func() []api.Trans { return []api.Trans{{Cond: next()}, {Cond: next()}} }
		state := func(name string, autos ...api.Auto) api.State {
			return api.State{Name: name, Locals: decls(api.TBool, "l1"+name, "l2"+name), Unless: trans(), Eqs: []api.Eq{eq(next(), "l1"+name), eq(next(), "l2"+name)}, Autos: autos, Until: trans()}
		}
		n := api.Node{Name: "f", In: decls(api.TInt, "a"), Out: decls(api.TBool, "x"), Eqs: []api.Eq{eq(yes, "x")}}
		n.Autos = []api.Auto{
			{States: []api.State{state("A"), state("B")}},
			{States: []api.State{state("C"), state("D", api.Auto{States: []api.State{state("E"), state("F")}}, api.Auto{States: []api.State{state("G")}})}},
		}
		n.Assume = []api.Expr{next(), next()}
		n.Ensure = []api.Expr{next(), next()}
		return api.Program{Nodes: []api.Node{n, {Name: "g", Out: decls(api.TInt, "x"), Eqs: []api.Eq{eq(yes, "x")}}}}
	}
	const places = 7*6 + 4
	for i := range places {
		expectCheck(t, "a place", build(i), api.Where{Node: 0, Eq: -1}, api.ErrType)
	}
	expectCheck(t, "the next node", build(places), api.Where{Node: 1, Eq: 0}, api.ErrType)
}
