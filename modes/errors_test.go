package modes

import (
	"math/rand"
	"reflect"
	"strconv"
	"strings"
	"testing"

	"synchrony/api"
	"synchrony/shape"
	"synchrony/types"
)

// list returns n texts that f makes of the numbers from 0 on.
func list(n int, separator string, f func(i string) string) string {
	var l []string
	for i := range n {
		l = append(l, f(strconv.Itoa(i)))
	}
	return strings.Join(l, separator)
}

// plus returns the sum of the number s and k.
func plus(s string, k int) string {
	n, _ := strconv.Atoi(s)
	return strconv.Itoa(n + k)
}

// limit is a text of a program with a part that is there n times; the expanded program is within the limits for n up to most.
type limit struct {
	name string
	most int
	text func(n int) string
}

// limits has one limit for each size that expansion can make too large.
func limits() []limit {
	auto := "automaton state S do x = 1; done end "
	decls := func(from string) func(i string) string {
		return func(i string) string { return from + i + ": int" }
	}
	define := func(from string) func(i string) string {
		return func(i string) string { return from + i + " = 1;" }
	}
	return []limit{
		{"enumerations", 23, func(n int) string {
			return list(n, "", func(i string) string { return "type E" + i + " = T" + i + "; " }) + "node f() returns (x: int) let " + auto + "tel"
		}},
		{"enumerations of automata in each other", 21, func(n int) string {
			return list(n, "", func(i string) string { return "type E" + i + " = T" + i + "; " }) + "node f() returns (x: int) let automaton state S do automaton state S do " + auto + "done end done end tel"
		}},
		{"nodes", 94, func(n int) string {
			return list(n, "", func(i string) string { return "node f" + i + "() returns (x: int) let x = 1; tel " }) + "node f() returns (x: int) let " + auto + "tel"
		}},
		{"nodes of states", 87, func(n int) string {
			return list(n, "", func(i string) string { return "node f" + i + "() returns (x: int) let x = 1; tel " }) + "node f() returns (x: int) let automaton " + list(8, "", func(i string) string { return "state S" + i + " do x = 1; done " }) + "end tel"
		}},
		{"locals", 247, func(n int) string {
			return "node f() returns (x: int) var " + list(n, "; ", decls("v")) + "; let " + list(n, "", define("v")) + auto + "tel"
		}},
		{"locals with those of transitions", 245, func(n int) string {
			return "node f() returns (x: int) var " + list(n, "; ", decls("v")) + "; let " + list(n, "", define("v")) + strings.Replace(auto, "do", "unless true then S; unless false then S; do", 1) + "tel"
		}},
		{"equations", 8, func(n int) string {
			return "node f() returns (x: int; " + list(n, "; ", decls("w")) + ") var " + list(240, "; ", decls("v")) + "; let " + list(n, "", define("w")) + list(240, "", define("v")) + auto + "tel"
		}},
		{"locals of a state", 255, func(n int) string { // most of them are defined by calls, so that the equations are few
			s := "node g() returns (" + list(64, "; ", decls("x")) + ") let " + list(64, "", define("x")) + "tel node f() returns (x: int) let automaton state S var " + list(192, "; ", decls("u")) + "; " + list(n-192, "; ", decls("v")) + "; do x = 1; "
			for k := range 3 {
				s += "(" + list(64, ", ", func(i string) string { return "u" + plus(i, 64*k) }) + ") = g(); "
			}
			return s + list(n-192, "", define("v")) + "until true then S; done end tel"
		}},
		{"equations of a state", 252, func(n int) string {
			return "node f() returns (x: int) let automaton state S var " + list(n, "; ", decls("v")) + "; do x = 1; " + list(n, "", define("v")) + "until true then S; done end tel"
		}},
		{"inputs of a body", 63, func(n int) string {
			return "node f() returns (x: int) var " + list(n, "; ", decls("v")) + "; let " + list(n, "", define("v")) + "automaton state S var " + list(n, "; ", decls("l")) + "; do x = 1; " + list(n, "", func(i string) string { return "l" + i + " = v" + i + ";" }) + "done end tel"
		}},
		{"outputs of a body", 62, func(n int) string {
			return "node f() returns (x: int) var " + list(n, "; ", decls("v")) + "; let x = 1; automaton state S do " + list(n, "", define("v")) + " done end tel"
		}},
	}
}

// TestLimits is the ErrLimit of P15.1.
func TestLimits(t *testing.T) {
	for _, c := range limits() {
		expectRight(t, expand(t, c.name, read(t, c.text(c.most))))
		p := read(t, c.text(c.most+1))
		if w, e := types.Check(p); e != api.OK {
			t.Fatalf("%s: the program itself is wrong at %v, %d", c.name, w, int(e))
		}
		expectError(t, c.name, p, api.ErrLimit)
		p.Nodes[0].Assume = []api.Expr{constant(api.TInt, 1)}
		expectError(t, c.name+", and a wrong type", p, api.ErrType)
	}
	if l := limits(); strings.Count(l[2].text(95), "node") != 96 {
		t.Error("the nodes are not as many as there may be")
	}
}

// TestErrors: the errors of types.Check are returned, with those of shape.Check and scope.Check.
func TestErrors(t *testing.T) {
	for _, c := range []struct {
		old, new string
		want     api.Errno
	}{
		{"z = pre l > b", "z = pre l", api.ErrType},
		{"l = 0;", "l = z;", api.ErrType},
		{"unless b = 3", "unless b", api.ErrType},
		{"until l = 4", "until l", api.ErrType},
		{"until x > 8", "until x + 8", api.ErrType},
		{"unless z then", "unless l then", api.ErrType},
		{"x = 5;", "x = next_1();", api.ErrArity},
		{"x = 1;", "y = 1;", api.ErrName},
		{"\n      u = at_3;", " u = at_3; u = at_1;", api.ErrTwice},
		{"z = u = at_3;", "", api.ErrNone},
		{"l = 0;", "", api.ErrNone},
		{"var l: int;", "var l: int; l: int;", api.ErrTwice},
		{"assume b > 0", "assume b", api.ErrType},
		{"ensure x > 0", "ensure l > 0", api.ErrName},
		{"now_1 = a and c", "now_1 = a and b", api.ErrType},
	} {
		if n := strings.Count(fullText, c.old); n != 1 {
			t.Fatalf("%q is %d times in the text", c.old, n)
		}
		expectError(t, c.new, read(t, strings.Replace(fullText, c.old, c.new, 1)), c.want)
	}
	full := read(t, fullText)
	p := deepCopy(full)
	p.Nodes[1].Autos[0].States[1].Until[0].To = 2
	expectError(t, "a transition to no state", p, api.ErrRange)
	p = deepCopy(full)
	p.Nodes[1].Autos[0].States[0].Unless[0].Cond = api.Expr{Kind: api.EPre, Args: []api.Expr{variable("c")}}
	expectError(t, "a condition with a state", p, api.ErrForm)
	p = deepCopy(full)
	p.Nodes[1].Autos[0].States = nil
	expectError(t, "an automaton without states", p, api.ErrNone)
	p = deepCopy(full)
	for range 3 {
		p.Nodes[1].Autos = []api.Auto{{States: []api.State{{Name: "S", Autos: p.Nodes[1].Autos}}}}
	}
	expectError(t, "automata that are nested too deeply", p, api.ErrLimit)
	expectError(t, "a node without outputs", api.Program{Nodes: []api.Node{{Name: "f"}}}, api.ErrNone)
	expectError(t, "a node without a name", api.Program{Nodes: []api.Node{{}}}, api.ErrName)
}

// TestNotChecked: what clocks, starts and cause refuse is expanded.
func TestNotChecked(t *testing.T) {
	for _, eqs := range []string{"x = a + (a when true(c));", "x = x;", "x = pre x;", "automaton state S do x = a when true(c); done end", "automaton state S do x = x; done end", "automaton state S unless x > 0 then S; do x = 1; done end"} {
		p := read(t, "node f(a: int; c: bool) returns (x: int) let "+eqs+" tel")
		q := expand(t, eqs, p)
		expectRight(t, q)
		if shape.Plain(p) && !shape.Same(p, q) {
			t.Errorf("%s: the program is changed", eqs)
		}
	}
}

// TestSpoilt: of programs with some changes anywhere, Expand returns the error of types.Check.
func TestSpoilt(t *testing.T) {
	r := rand.New(rand.NewSource(6))
	full := read(t, fullText)
	errors := map[api.Errno]int{}
	for range 4000 {
		p := deepCopy(full)
		for range 1 + r.Intn(2) {
			spoil(r, reflect.ValueOf(&p).Elem())
		}
		before := deepCopy(p)
		_, want := types.Check(p)
		if want == api.OK {
			expectRight(t, expand(t, "a changed program", p))
		} else {
			expectError(t, "a changed program", p, want)
		}
		if !reflect.DeepEqual(p, before) {
			t.Fatal("the program became another one")
		}
		errors[want]++
		Count(p)
		Nest(p)
	}
	if len(errors) < 8 || errors[api.OK] < 100 {
		t.Errorf("only %d errors, and %d programs without one", len(errors), errors[api.OK])
	}
}

// spoil changes a part of v: it removes or repeats an element of a list, or changes a number, a name or a flag.
func spoil(r *rand.Rand, v reflect.Value) {
	var parts []reflect.Value
	var visit func(v reflect.Value)
	visit = func(v reflect.Value) {
		switch v.Kind() {
		case reflect.Struct:
			for i := range v.NumField() {
				visit(v.Field(i))
			}
			return
		case reflect.Slice:
			for i := range v.Len() {
				visit(v.Index(i))
			}
		}
		parts = append(parts, v)
	}
	visit(v)
	p := parts[r.Intn(len(parts))]
	switch p.Kind() {
	case reflect.Int:
		p.SetInt(p.Int() + int64(r.Intn(3)) - 1)
	case reflect.Bool:
		p.SetBool(!p.Bool())
	case reflect.String:
		for q := parts[r.Intn(len(parts))]; ; q = parts[r.Intn(len(parts))] {
			if q.Kind() == reflect.String {
				p.SetString(q.String())
				return
			}
		}
	case reflect.Slice:
		if n := p.Len(); n > 0 && r.Intn(2) == 0 {
			p.Set(p.Slice(0, n-1))
		} else if n > 0 {
			p.Set(reflect.Append(p, copyOf(p.Index(r.Intn(n)))))
		}
	}
}
