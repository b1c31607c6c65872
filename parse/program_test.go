package parse

import (
	"math/rand"
	"reflect"
	"slices"
	"strings"
	"testing"

	"synchrony/api"
	"synchrony/lex"
	"synchrony/shape"
)

// The tests of Program are those of its results, of its errors, and P8.1 to P8.4.

func TestProgramExamples(t *testing.T) {
	expectProgram(t, "", api.Program{})
	expectProgram(t, " -- nothing\n", api.Program{})
	expectProgram(t, "node f(a: int) returns (x: int) let x = a - -1; tel", api.Program{Nodes: []api.Node{{
		Name: "f", In: []api.Decl{{Name: "a", Type: api.TInt}}, Out: []api.Decl{{Name: "x", Type: api.TInt}},
		Eqs: []api.Eq{{Left: []string{"x"}, Right: apply(api.OpSub, variable("a"), number(-1))}},
	}}})
	refuseProgram(t, "node f(", 7, api.ErrForm)
	count := "node count(r: bool) returns (n: int) let n = if r then 0 else (0 fby n) + 1; tel"
	n := with(api.EIf, variable("r"), number(0), apply(api.OpAdd, with(api.EFby, number(0), variable("n")), number(1)))
	expectProgram(t, count, api.Program{Nodes: []api.Node{{
		Name: "count", In: []api.Decl{{Name: "r", Type: api.TBool}}, Out: []api.Decl{{Name: "n", Type: api.TInt}}, Eqs: []api.Eq{{Left: []string{"n"}, Right: n}},
	}}})
}

// everything has each part of a program.
const everything = `type Hue = Red | Green; type One = Only;
node f(a: bool; h: Hue) returns (x: int; y: One) var k: int when Green(h) when false(a); m: bool; assume a; ensure x > 0; assume not a; let
  k = 1; (m) = a;
  automaton
    state Up var j: bool when Only(y); unless a then Down; unless m continue Up; do
      (x, y) = g(a); automaton state S do until true then S; until a continue S; done end j = m;
    until pre a continue Down; until m then Up; done
    state Down do done
  end
  x = 2; automaton end
tel
node g() returns (z: Hue) let tel`

func TestProgramOfEverything(t *testing.T) {
	a, m := variable("a"), variable("m")
	inner := api.Auto{States: []api.State{{Name: "S", Until: []api.Trans{{Cond: valueOf(api.TBool, 1)}, {Cond: a, Resume: true}}}}}
	up := api.State{
		Name:   "Up",
		Locals: []api.Decl{{Name: "j", Type: api.TBool, Clock: []api.On{{Name: "y", T: api.TEnum + 1, Tag: 0}}}},
		Eqs:    []api.Eq{{Left: []string{"x", "y"}, Right: call("g", a)}, {Left: []string{"j"}, Right: m}},
		Autos:  []api.Auto{inner},
		Unless: []api.Trans{{Cond: a, To: 1}, {Cond: m, Resume: true}},
		Until:  []api.Trans{{Cond: with(api.EPre, a), To: 1, Resume: true}, {Cond: m}},
	}
	f := api.Node{
		Name: "f",
		In:   []api.Decl{{Name: "a", Type: api.TBool}, {Name: "h", Type: api.TEnum}},
		Out:  []api.Decl{{Name: "x", Type: api.TInt}, {Name: "y", Type: api.TEnum + 1}},
		Locals: []api.Decl{
			{Name: "k", Type: api.TInt, Clock: []api.On{{Name: "h", T: api.TEnum, Tag: 1}, {Name: "a", T: api.TBool, Tag: 0}}},
			{Name: "m", Type: api.TBool},
		},
		Eqs: []api.Eq{
			{Left: []string{"k"}, Right: number(1)},
			{Left: []string{"m"}, Right: a},
			{Left: []string{"x"}, Right: number(2)},
		},
		Autos:  []api.Auto{{States: []api.State{up, {Name: "Down"}}}},
		Assume: []api.Expr{a, apply(api.OpNot, a)},
		Ensure: []api.Expr{apply(api.OpGt, variable("x"), number(0))},
	}
	g := api.Node{Name: "g", Out: []api.Decl{{Name: "z", Type: api.TEnum}}}
	s := strings.Replace(everything, "automaton end", "", 1)
	expectProgram(t, s, api.Program{
		Enums: []api.Enum{{Name: "Hue", Tags: []string{"Red", "Green"}}, {Name: "One", Tags: []string{"Only"}}},
		Nodes: []api.Node{f, g},
	})
	refuseProgram(t, everything, 0, api.ErrNone)
}

// TestSomePrograms reads programs that have been written; with other blanks and remarks, the result is the same (P8.1).
func TestSomePrograms(t *testing.T) {
	w := writer{r: rand.New(rand.NewSource(9))}
	for range 1500 {
		p := w.program()
		if where, e := shape.Check(p); e != api.OK {
			t.Fatalf("%v: %v, %d", p, where, int(e))
		}
		tokens := w.programTokens(p)
		expectProgram(t, w.text(tokens), p)
		expectProgram(t, strings.Join(tokens, " "), p)
	}
}

func TestSomeExprs(t *testing.T) {
	w := writer{r: rand.New(rand.NewSource(10)), enums: enums()}
	for i := range 6000 {
		e := w.expr(1 + i%5)
		l := enums()
		s := w.text(w.tokens(e, atExpr, true))
		expectExpr(t, l, s, e)
		expectExpr(t, l, "("+s+"\n)", e) // P8.5
		if !reflect.DeepEqual(l, enums()) {
			t.Fatalf("the enumerations became %v", l)
		}
	}
}

// changed is a list of tokens with a few of them left out, repeated, replaced, inserted or exchanged, from some index on.
func (w writer) changed(l []string, from int) []string {
	l = slices.Clone(l)
	for range 1 + w.r.Intn(2) {
		i := max(1, from+w.r.Intn(len(l)-from))
		other := l[from+w.r.Intn(len(l)-from)]
		if w.chance(2) {
			texts := strings.Fields("( ) : ; , = | -> - + v0 Red Only Blue Hue One Other bool int 7 '(1)' if then else when merge every true false var let tel node returns assume ensure automaton state unless until do done end continue type not pre fby")
			other = texts[w.r.Intn(len(texts))]
		}
		switch w.r.Intn(5) {
		case 0:
			l = slices.Delete(l, i, i+1)
		case 1:
			l = slices.Insert(l, i, other)
		case 2:
			l[i] = other
		case 3:
			return l[:i]
		case 4:
			w.rename(l, from)
		}
		if len(l) <= from {
			return l
		}
	}
	return l
}

// rename replaces the name of a type or tag from some index on by another one, if there is one.
func (w writer) rename(l []string, from int) {
	var at []int
	for i := max(from, 3); i < len(l); i++ {
		if l[i-1] == "when" || l[i-1] == ":" || l[i-3] == "merge" || l[i-1] == "(" && l[i-2] == ")" {
			at = append(at, i)
		}
	}
	if len(at) > 0 {
		names := strings.Fields("Red Green Only Other Hue One v1 true false int")
		l[at[w.r.Intn(len(at))]] = names[w.r.Intn(len(names))]
	}
}

// TestChangedPrograms compares Program with the grammar for programs that have been changed.
func TestChangedPrograms(t *testing.T) {
	general, special := read(chapter), read(meaningful(enums()))
	w := writer{r: rand.New(rand.NewSource(11)), enums: enums()}
	header := w.header()
	seen := map[api.Errno]int{}
	for range 1500 {
		l := w.changed(append(header, w.nodeTokens(w.node())...), len(header))
		s := strings.Join(l, " ")
		tokens, _, _ := lex.Scan(s)
		p, at, e := Program(s)
		if e == api.ErrName && at > 0 && namesTarget(tokens, at) {
			continue
		}
		seen[e]++
		i, want := expected(general, special, "program", tokens)
		switch {
		case want == api.OK:
			wholes := []api.Errno{api.OK, api.ErrClock, api.ErrForm, api.ErrNone}
			if _, f := shape.Check(p); f != api.OK || at != 0 || !slices.Contains(wholes, e) || e == api.OK && len(p.Enums) != 2 {
				t.Fatalf("%q: %v, %d, %d", s, p, at, int(e))
			}
		case i == len(tokens):
			refuseProgram(t, s, len(s), want)
		default:
			refuseProgram(t, s, tokens[i].At, want)
		}
	}
	for _, e := range []api.Errno{api.OK, api.ErrForm, api.ErrName} {
		if seen[e] < 50 {
			t.Errorf("only %d programs with the error %d", seen[e], int(e))
		}
	}
}

// namesTarget reports whether the token that begins at an index follows a then or a continue.
func namesTarget(tokens []api.Token, at int) bool {
	i := slices.IndexFunc(tokens, func(x api.Token) bool { return x.At == at })
	return i > 0 && (tokens[i-1].Text == "then" || tokens[i-1].Text == "continue")
}

// TestSyntax: texts that the grammar does not permit, which are wrong at their last token or at the end (an index of -1).
func TestSyntax(t *testing.T) {
	head := "node f() returns (x: int) "
	for _, s := range []string{
		"tel", "let", "x", "(", "1", ";", "type 1", "type bool", "type E ;", "type E = ;", "type E = true", "type E = A B", "type E = A | |", "type E = A | if", "type E = A node", "node f() returns (x: int) let tel type",
		"node (", "node int", "node f returns", "node f(,", "node f(;", "node f(a)", "node f(a:)", "node f(a: 1", "node f(a: true", "node f(a: if", "node f(a: int,", "node f(a: int b", "node f(a: int;)", "node f(a: int; b: int;)", "node f(int",
		"node f() (", "node f() returns x", "node f() returns ()", "node f() returns (x: int;)", "node f() returns (x: int) returns", "node f() returns (x: int) tel", "node f() returns (x: int);",
		"node f() returns (x: int when 1", "node f() returns (x: int when true true", "node f() returns (x: int when true(1", "node f() returns (x: int when true(a b", "node f() returns (x: int when true(a) a",
		head + "var let", head + "var ;", head + "var a: int let", head + "var a: int,", head + "var a: int; var", head + "var a: int; ;", head + "var a: int; b let", head + "var a: int when true(b) c", head + "var assume",
		head + "assume ;", head + "assume let", head + "assume a let", head + "assume a assume", head + "ensure a; var", head + "let assume", head + "let ensure", head + "assume a; x",
		head + "let let", head + "let ;", head + "let node", head + "let x x", head + "let x :", head + "let x ,", head + "let ()", head + "let (x;", head + "let (x y", head + "let (x,)", head + "let (x))", head + "let (x) ;", head + "let ((",
		head + "let x = ;", head + "let x = 1 tel", head + "let x = 1,", head + "let x = 1; ;", head + "let x = 1 x", head + "let true", head + "let x = 1; end", head + "let x = 1; done", head + "let until",
		head + "let automaton x", head + "let automaton tel", head + "let automaton end ;", head + "let automaton end end", head + "let automaton state do", head + "let automaton state 1", head + "let automaton state S S", head + "let automaton state S done", head + "let automaton state S until",
		head + "let automaton state S let", head + "let automaton state S var do", head + "let automaton state S var a: int do", head + "let automaton state S unless do", head + "let automaton state S unless a ;", head + "let automaton state S unless a do", head + "let automaton state S unless a then ;",
		head + "let automaton state S unless a then 1", head + "let automaton state S unless a then true", head + "let automaton state S unless a then S do", head + "let automaton state S unless a else", head + "let automaton state S unless a continue continue", head + "let automaton state S unless a then S; var",
		head + "let automaton state S do unless", head + "let automaton state S do end", head + "let automaton state S do tel", head + "let automaton state S do until a then S; x", head + "let automaton state S do until a then S done", head + "let automaton state S do done ;", head + "let automaton state S do done x",
		head + "let automaton state S do done tel", head + "let automaton state S do until a then S; unless", head + "let automaton state S do do",
	} {
		refuseAtLast(t, s, api.ErrForm)
	}
	for _, s := range []string{"type", "type E", "type E =", "type E = A", "type E = A |", "node", "node f", "node f(", "node f(a", "node f(a:", "node f(a: int", "node f(a: int;", "node f(a: int when", "node f()", "node f() returns", "node f() returns (", "node f() returns (x: int", head, head + "var", head + "var a: int", head + "var a: int;", head + "assume", head + "assume a", head + "assume a;", head + "let", head + "let x", head + "let (", head + "let (x", head + "let (x,", head + "let (x)", head + "let x =", head + "let x = 1", head + "let x = 1;", head + "let automaton", head + "let automaton state", head + "let automaton state S", head + "let automaton state S unless a", head + "let automaton state S unless a then", head + "let automaton state S do", head + "let automaton state S do until a continue T;", head + "let automaton state S do done", head + "let automaton end"} {
		refuseProgram(t, s, len(s), api.ErrForm)
		refuseProgram(t, s+" -- x\n ", len(s)+7, api.ErrForm)
	}
}

// TestTypes: names of types that are wrong at the last token, and those that are right.
func TestTypes(t *testing.T) {
	types := "type A = X | Y; type B = A; type A = Z; "
	for _, s := range []string{"node f(a: C", "node f(a: X", "node f() returns (a: Int", "node f(a: int; b: B; c: b", "node f() returns (x: int) var a: Bool", "node f() returns (x: int) let automaton state S var a: S"} {
		refuseAtLast(t, types+s, api.ErrName)
	}
	refuseAtLast(t, "type A = B; node f(x: B", api.ErrName)
	refuseAtLast(t, "node f(x: int when A", api.ErrName)
	refuseAtLast(t, types+"node f(x: A when B", api.ErrName)
	refuseAtLast(t, types+"node f() returns (x: int) var a: int when U", api.ErrName)
	refuseAtLast(t, types+"node f() returns (x: int) let x = a when U", api.ErrName)
	p, _, e := Program(types + "node f(a: A; b: B; c: bool; d: int) returns (x: int) var k: int when Y(a) when A(b) when Z(c); let x = A; tel")
	if e != api.OK {
		t.Fatal(e)
	}
	var l []int
	for _, d := range p.Nodes[0].In {
		l = append(l, d.Type)
	}
	if !slices.Equal(l, []int{3, 4, 1, 2}) {
		t.Errorf("the types %v", l)
	}
	if c := p.Nodes[0].Locals[0].Clock; !slices.Equal(c, []api.On{{Name: "a", T: 3, Tag: 1}, {Name: "b", T: 4, Tag: 0}, {Name: "c", T: 5, Tag: 0}}) {
		t.Errorf("the clock %v", c)
	}
	if !reflect.DeepEqual(p.Nodes[0].Eqs[0].Right, valueOf(4, 0)) {
		t.Errorf("the tag %v", p.Nodes[0].Eqs[0].Right)
	}
}

// targets is a node with the text as its body, and the index of a mark in it.
func targets(body string) (string, int) {
	s := "node f() returns (x: int) let " + body + " tel"
	return strings.Replace(s, "@", "", 1), strings.Index(s, "@")
}

// TestTargets: the target of a transition is the first state with its name of the same automaton; a wrong one is found at the end of the automaton, the first one in the text.
func TestTargets(t *testing.T) {
	s, _ := targets("automaton state S unless a then T; unless a continue U; do automaton state U do until a then U; until b then T; done state T do done end until a then S; done state T do done state S do until a continue S; done state U do until a then T; done end")
	p, _, e := Program(s)
	if e != api.OK {
		t.Fatal(e)
	}
	a := p.Nodes[0].Autos[0]
	s0, s2, s3, inner := a.States[0], a.States[2], a.States[3], a.States[0].Autos[0].States[0]
	if s0.Unless[0].To != 1 || s0.Unless[1].To != 3 || s0.Until[0].To != 0 || s2.Until[0].To != 0 || s3.Until[0].To != 1 || inner.Until[0].To != 0 || inner.Until[1].To != 1 {
		t.Errorf("%v", a)
	}
	for _, body := range []string{
		"automaton state S do until a then @T; done end",
		"automaton state S unless a continue @s; do done end",
		"automaton state S do until a then S; until a then @f; until a then g; done end",
		"automaton state S unless a then @U; do x = 1; until a then V; done end",
		"automaton state S do until a then @U; done state T unless a then V; do done end",
		"automaton state S do automaton state T do until a then @S; done end until a then V; done end",
		"automaton state S unless a then V; do automaton state T do until a then @S; done end done end",
		"automaton state S do automaton state T do done end until a then @T; done end",
		"automaton state S do until a then @T; done end automaton state T do until a then V; done end",
		"automaton state S do until a then S; done end automaton state T do until a then @S; done end",
		"automaton state S do until a then @T; done end x = 32768 + U; )",
	} {
		s, at := targets(body)
		refuseProgram(t, s, at, api.ErrName)
	}
	// What is wrong before the end of the automaton is found before.
	for body, want := range map[string]api.Errno{
		"automaton state S do until a then T; done @tel":                           api.ErrForm,
		"automaton state S unless a then T; do x = @32768; done end":               api.ErrRange,
		"automaton state S do until a then T; until b when @U(c) then T; done end": api.ErrName,
		"automaton state S unless a then T; do automaton state A do done @x":       api.ErrForm,
		"automaton state S unless a then T; do done state S do (x, @)":             api.ErrForm,
	} {
		s, at := targets(body)
		refuseProgram(t, s, at, want)
	}
}

// repeated is n times the text.
func repeated(s string, n int) string { return strings.Repeat(s, n) }

// declared has n declarations with semicolons between them, in the given form.
func declared(n int) string {
	return strings.TrimSuffix(repeated("a: int; ", n), "; ")
}

// limited is a text in which more of something comes than there may be of it, in parts: what comes before, the elements, the beginning of a further one, and the end.
type limited struct {
	before  string
	element string
	most    int
	more    string // the first token of a further element, if it is not that of element
	after   string
}

func limits() []limited {
	head, tail := "node f() returns (x: int) ", " tel"
	state := head + "let automaton state S "
	return []limited{
		{"", "type E = A; ", 24, "type", ""},
		{"type E = A", " | A", 16 - 1, "", ";"},
		{"", "node f() returns (x: int) let tel ", 96, "node", ""},
		{"node f(a: int", "; a: int", 64 - 1, "", ") returns (x: int) let tel"},
		{"node f(" + declared(64) + ") returns (a: int", "; a: int", 64 - 1, "", ") let tel"},
		{"node f(" + declared(64) + ") returns (" + declared(64) + ") var ", "a: int; ", 256, "a", "let tel"},
		{head + "var k: int", " when true(a)", 4, " when", "; let tel"},
		{"type E = A; " + head + "var k: int; j: E when true(b)", " when A(a)", 4 - 1, " when", "; let tel"},
		{head + "let (a", ", a", 64 - 1, "", ") = f();" + tail},
		{head + "let ", "a = 1; ", 256, "a", tail},
		{head + "let ", "(a, b) = f(); ", 256, "(", tail},
		{head + "let automaton state S do done end ", "a = b; ", 256, "a", tail},
		{head + "let ", "automaton state S do done end ", 8, "automaton", tail},
		{head + "let a = b; ", "automaton state S do done end ", 8, "automaton", "a = b; tel"},
		{head + "let automaton ", "state S do done ", 8, "state", "end" + tail},
		{state, "unless a then S; ", 4, "unless", "do done end" + tail},
		{state + repeated("unless a then S; ", 4) + "do ", "until a then S; ", 4, "until", "done end" + tail},
		{state + "var ", "a: int; ", 256, "a", "do done end" + tail},
		{state + "do ", "a = 1; ", 256, "a", "done end" + tail},
		{state + "do ", "automaton state S do done end ", 8, "automaton", "done end" + tail},
		{head, "assume a; ", 8, "assume", "let tel"},
		{head + repeated("assume a; ", 8), "ensure a; ", 8, "ensure", "let tel"},
		{head + "ensure a; ", "assume a; ", 8, "assume", "ensure b; let tel"},
	}
}

// TestLimits: with the most elements a text is right; one more is wrong at the token that begins it.
func TestLimits(t *testing.T) {
	for _, x := range limits() {
		s := x.before + repeated(x.element, x.most)
		if _, at, e := Program(s + x.after); at != 0 || e != api.OK {
			t.Errorf("%.200q = %d, %d", s+x.after, at, int(e))
		}
		more := x.more
		if more == "" {
			more = strings.TrimSuffix(x.element, ": int")
		}
		if !strings.HasPrefix(x.element, more) {
			t.Fatalf("%q does not begin with %q", x.element, more)
		}
		refuseAtLast(t, s+more, api.ErrLimit)
		tokens, _, _ := lex.Scan(s + more)
		refuseProgram(t, s+x.element+x.element+x.after, tokens[len(tokens)-1].At, api.ErrLimit)
	}
}

// TestLimitOfNesting: an automaton is in at most two others.
func TestLimitOfNesting(t *testing.T) {
	open, end := "automaton state S do ", "done end "
	for n := 1; n <= 6; n++ {
		s := "node f() returns (x: int) let " + repeated("automaton state T do done end ", 7) + repeated(open, n) + repeated(end, n) + "tel"
		if n <= 3 {
			if _, at, e := Program(s); at != 0 || e != api.OK {
				t.Errorf("%d levels: %d, %d", n, at, int(e))
			}
			continue
		}
		refuseProgram(t, s, strings.Index(s, repeated(open, n))+3*len(open), api.ErrLimit)
	}
}

// TestOrderOfErrors: of the errors at one token, and of those at different ones.
func TestOrderOfErrors(t *testing.T) {
	full := "node f(" + declared(64)
	refuseAtLast(t, full+"; 1", api.ErrForm)
	refuseAtLast(t, full+"; a", api.ErrLimit)
	refuseAtLast(t, full+" when U", api.ErrName)
	refuseAtLast(t, "type E = A"+repeated(" | A", 15)+" | if", api.ErrForm)
	refuseAtLast(t, "node f() returns (x: int) let (a"+repeated(", a", 63)+", 1", api.ErrForm)
	refuseAtLast(t, "node f() returns (x: int) "+repeated("assume a; ", 8)+"var", api.ErrForm)
	refuseAtLast(t, "node f() returns (x: int) let "+repeated("a = 1; ", 256)+"end", api.ErrForm)
	refuseAtLast(t, "node f() returns (x: int) let x = 32768", api.ErrRange)
	refuseAtLast(t, "node f() returns (x: int) let x 32768", api.ErrForm)
	refuseProgram(t, "node f() returns (x: U) let x = 32768; tel $", 43, api.ErrForm)
	refuseProgram(t, "node f() returns (x: int) let x = 32768; tel", 34, api.ErrRange)
	refuseProgram(t, "node f(a: int returns (x: U", 14, api.ErrForm)
}

// TestWholeErrors: those of layer 7 come after all others, with the index 0.
func TestWholeErrors(t *testing.T) {
	node := func(body string) string { return "node f(a: bool) returns (x: int) let " + body + " tel" }
	deep := repeated("pre ", 32) + "a"
	for s, want := range map[string]api.Errno{
		"node f(a: bool when true(a)) returns (x: int) let tel": api.ErrClock,
		"node f(a: bool) returns (x: int when true(a)) let tel": api.ErrClock,
		node("(x, y) = a;"):              api.ErrForm,
		node("(x, y) = (f(a) -> f(a));"): api.ErrForm,
		node("x = '01';"):                api.ErrForm,
		node("x = " + deep + ";"):        api.ErrLimit,
		node("automaton end"):            api.ErrNone,
		node("automaton state S unless pre a then S; do done end"):       api.ErrForm,
		node("automaton state S unless f(a) then S; do done end"):        api.ErrForm,
		node("automaton state S do until " + deep + " then S; done end"): api.ErrLimit,
		"node f(a: bool) returns (x: int) assume '2'; let tel":           api.ErrForm,
	} {
		if _, _, e := lex.Scan(s); e != api.OK {
			refuseProgram(t, s, strings.Index(s, "'"), want)
			continue
		}
		refuseProgram(t, s, 0, want)
		refuseProgram(t, s+" let", len(s)+1, api.ErrForm)
	}
}

// TestIndices is P8.1 to P8.4: texts of any tokens, with other blanks, and what is added to a text that is wrong at a token.
func TestIndices(t *testing.T) {
	w := writer{r: rand.New(rand.NewSource(12)), enums: enums()}
	texts := append(textsOf(), strings.Fields("type node returns var : | automaton state unless until do done end continue assume ensure tel 32768 bool int Hue")...)
	for i := range 1500 {
		l := w.changed(append(w.header(), w.nodeTokens(w.node())...), 0)
		for range i % 3 {
			l = append(l, texts[w.r.Intn(len(texts))])
		}
		s := w.text(l)
		p, at, e := Program(s)
		where, f := shape.Check(p)
		if at < 0 || at > len(s) || e == api.OK && at != 0 || f != api.OK || where != (api.Where{}) || e != api.OK && !reflect.DeepEqual(p, api.Program{}) {
			t.Fatalf("%q: %v, %d, %d", s, p, at, int(e))
		}
		tokens, _, _ := lex.Scan(s)
		if q, _, f := Program(lex.Join(tokens)); f != e || !shape.Same(p, q) {
			t.Fatalf("%q: %v, %d; with single blanks %v, %d", s, p, int(e), q, int(f))
		}
		if e != api.ErrForm || at == 0 || at >= len(s) {
			continue
		}
		k := slices.IndexFunc(tokens, func(x api.Token) bool { return x.At == at })
		if k < 0 {
			continue
		}
		for _, more := range []string{"", " ", ") ; tel", "1", " x = 1; tel", "\x00", texts[i%len(texts)], " -- x"} {
			if _, _, e := Program(s[:at+len(lex.Join(tokens[k:k+1]))] + " " + more); e == api.OK {
				t.Fatalf("%q: an error at %d, but none with %q", s, at, more)
			}
		}
	}
}

// TestNoMemoryIsShared is rule 4: no list reaches into the memory of another one.
func TestNoMemoryIsShared(t *testing.T) {
	s := strings.Replace(everything, "automaton end", "x = merge c (true -> f(1, 2, 3) every a) (false -> if a then b else c); x = 1 + 2 * a when Red(h);", 1)
	p, _, e := Program(s)
	q, _, _ := Program(s)
	if e != api.OK {
		t.Fatal(e)
	}
	spoilSpace(reflect.ValueOf(&p).Elem())
	if !shape.Same(p, q) {
		t.Errorf("%v became %v", q, p)
	}
}

// spoilSpace overwrites the space behind the elements of each list.
func spoilSpace(v reflect.Value) {
	switch v.Kind() {
	case reflect.Struct:
		for i := range v.NumField() {
			spoilSpace(v.Field(i))
		}
	case reflect.Slice:
		for i := range v.Len() {
			spoilSpace(v.Index(i))
		}
		space := v.Slice(0, v.Cap())
		for i := v.Len(); i < v.Cap(); i++ {
			spoil(space.Index(i))
		}
	}
}

func spoil(v reflect.Value) {
	switch v.Kind() {
	case reflect.Struct:
		for i := range v.NumField() {
			spoil(v.Field(i))
		}
	case reflect.Int:
		v.SetInt(99)
	case reflect.String:
		v.SetString("spoilt")
	}
}
