package show

import (
	"reflect"
	"strings"
	"testing"

	"synchrony/api"
	"synchrony/parse"
	"synchrony/scope"
	"synchrony/shape"
)

// wholeText is the text of the program that whole returns.
const wholeText = `type Light = Red | Green | Amber;
type Only = One;
node one() returns (x: int)
let
  x = 1;
tel
node two(a: int; l: Light) returns (x: int; y: Only)
  ensure x = a;
let
  x = a;
  y = One;
tel
node main(a: bool; b: int; l: Light) returns (x: int; y: Only)
  var m: int when true(a); n: Only when true(a) when Amber(l); c: bool;
  assume a or (b > (-1));
  assume true;
  ensure if a then true else a -> (pre a);
  ensure x = one();
let
  (m, c) = two(b, l) every (not a);
  x = merge l (Red -> b) (Green -> -7) (Amber -> -b);
  automaton
    state Up
      var k: bool; j: int when false(k);
      unless a then Down;
      unless l = Green continue Up;
    do
      k = a -> c;
      (j, y) = two(b fby (j + 1), l);
      automaton
        state In
        do
          n = y when true(a);
          automaton
            state Deep
              var i: int;
            do
              i = 0;
            done
          end
          until true then In;
        done
      end
      automaton
        state Off
          unless false continue Off;
        do
        done
      end
      until '1(0)' continue Down;
      until k then Up;
    done
    state Down
    do
      y = One;
      n = One;
    done
  end
  automaton
    state Up
    do
    done
  end
tel
`

func whole() api.Program {
	a, b, l, x, y, c, k := variable("a"), variable("b"), variable("l"), variable("x"), variable("y"), variable("c"), variable("k")
	yes, one := constant(api.TBool, 1), constant(only, 0)
	deep := api.Auto{States: []api.State{{Name: "Deep", Locals: []api.Decl{decl("i", api.TInt)}, Eqs: []api.Eq{eq(number(0), "i")}}}}
	in := api.Auto{States: []api.State{{
		Name: "In", Eqs: []api.Eq{eq(when(y, "a", api.TBool, 1), "n")}, Autos: []api.Auto{deep}, Until: []api.Trans{{Cond: yes}},
	}}}
	off := api.Auto{States: []api.State{{Name: "Off", Unless: []api.Trans{{Cond: constant(api.TBool, 0), Resume: true}}}}}
	up := api.State{
		Name:   "Up",
		Locals: []api.Decl{decl("k", api.TBool), decl("j", api.TInt, api.On{Name: "k", T: api.TBool})},
		Eqs:    []api.Eq{eq(with(api.EArrow, a, c), "k"), eq(call("two", with(api.EFby, b, apply(api.OpAdd, variable("j"), number(1))), l), "j", "y")},
		Autos:  []api.Auto{in, off},
		Unless: []api.Trans{{Cond: a, To: 1}, {Cond: apply(api.OpEq, l, constant(light, 1)), Resume: true}},
		Until:  []api.Trans{{Cond: periodic("1(0)"), To: 1, Resume: true}, {Cond: k}},
	}
	down := api.State{Name: "Down", Eqs: []api.Eq{eq(one, "y"), eq(one, "n")}}
	outs := []api.Decl{decl("x", api.TInt), decl("y", only)}
	main := api.Node{
		Name: "main",
		In:   []api.Decl{decl("a", api.TBool), decl("b", api.TInt), decl("l", light)},
		Out:  outs,
		Locals: []api.Decl{
			decl("m", api.TInt, api.On{Name: "a", T: api.TBool, Tag: 1}),
			decl("n", only, api.On{Name: "a", T: api.TBool, Tag: 1}, api.On{Name: "l", T: light, Tag: 2}),
			decl("c", api.TBool),
		},
		Eqs: []api.Eq{
			eq(every("two", b, l, apply(api.OpNot, a)), "m", "c"),
			eq(merge("l", light, b, number(-7), apply(api.OpNeg, b)), "x"),
		},
		Autos:  []api.Auto{{States: []api.State{up, down}}, {States: []api.State{{Name: "Up"}}}},
		Assume: []api.Expr{apply(api.OpOr, a, apply(api.OpGt, b, number(-1))), yes},
		Ensure: []api.Expr{with(api.EIf, a, yes, with(api.EArrow, a, with(api.EPre, a))), apply(api.OpEq, x, call("one"))},
	}
	return api.Program{
		Enums: enums()[:2],
		Nodes: []api.Node{
			{Name: "one", Out: outs[:1], Eqs: []api.Eq{eq(number(1), "x")}},
			{Name: "two", In: []api.Decl{decl("a", api.TInt), decl("l", light)}, Out: outs, Eqs: []api.Eq{eq(a, "x"), eq(one, "y")}, Ensure: []api.Expr{apply(api.OpEq, x, a)}},
			main,
		},
	}
}

// The tests of Program are P9.1.

func TestProgramExamples(t *testing.T) {
	f := api.Node{Name: "f", In: []api.Decl{decl("a", api.TBool)}, Out: []api.Decl{decl("b", api.TBool)}, Eqs: []api.Eq{eq(apply(api.OpNot, variable("a")), "b")}}
	expectProgram(t, api.Program{Nodes: []api.Node{f}}, "node f(a: bool) returns (b: bool)\nlet\n  b = not a;\ntel\n")
	expectProgram(t, api.Program{}, "")
	expectProgram(t, api.Program{Enums: enums()[:2]}, "type Light = Red | Green | Amber;\ntype Only = One;\n")
	expectProgram(t, api.Program{Nodes: []api.Node{{Name: "f", Out: []api.Decl{decl("b", api.TBool)}}}}, "node f() returns (b: bool)\nlet\ntel\n")
}

// TestProgramState is the chapter's example.
func TestProgramState(t *testing.T) {
	n := variable("n")
	up := api.State{
		Name:   "Up",
		Eqs:    []api.Eq{eq(with(api.EArrow, number(0), apply(api.OpAdd, with(api.EPre, n), number(1))), "n")},
		Unless: []api.Trans{{Cond: variable("stop"), To: 1}},
		Until:  []api.Trans{{Cond: apply(api.OpGt, n, number(9)), To: 1, Resume: true}},
	}
	f := api.Node{Name: "f", Out: []api.Decl{decl("n", api.TInt)}, Autos: []api.Auto{{States: []api.State{up, {Name: "Down"}}}}}
	expectProgram(t, api.Program{Nodes: []api.Node{f}}, `node f() returns (n: int)
let
  automaton
    state Up
      unless stop then Down;
    do
      n = 0 -> ((pre n) + 1);
      until n > 9 continue Down;
    done
    state Down
    do
    done
  end
tel
`)
}

func TestProgramWhole(t *testing.T) {
	p := whole()
	expectProgram(t, p, wholeText)
	if !reflect.DeepEqual(p, whole()) {
		t.Error("the program became another one")
	}
	if q, at, e := parse.Program(wholeText); e != api.OK || !shape.Same(p, q) {
		t.Errorf("the text is read as another program, error %d at %d", int(e), at)
	}
	for i := range p.Nodes {
		p.Nodes[i].Ensure, p.Nodes[i].Locals = nil, nil
	}
	s := strings.Replace(wholeText, "  ensure if a then true else a -> (pre a);\n  ensure x = one();\n", "", 1)
	s = strings.Replace(s, "  ensure x = a;\n", "", 1)
	expectProgram(t, p, strings.Replace(s, "  var m: int when true(a); n: Only when true(a) when Amber(l); c: bool;\n", "", 1))
}

// TestProgramErrors: the errors are those of shape.Check, without a text; names are not checked otherwise.
func TestProgramErrors(t *testing.T) {
	for i, do := range []func(n *api.Node){
		func(n *api.Node) {},
		func(n *api.Node) { n.Name = "one" },
		func(n *api.Node) { n.Eqs[1].Right = variable("nothing") },
		func(n *api.Node) { n.Name = "if" },
		func(n *api.Node) { n.Out = nil },
		func(n *api.Node) { n.In[0].Type = api.TEnum + 2 },
		func(n *api.Node) { n.In[0].Clock = []api.On{{Name: "a", T: api.TBool}} },
		func(n *api.Node) { n.Locals[1].Clock[1].Tag = 3 },
		func(n *api.Node) { n.Eqs[1].Left = nil },
		func(n *api.Node) { n.Eqs[0].Right = variable("a") },
		func(n *api.Node) { n.Eqs[1].Right = constant(light, 3) },
		func(n *api.Node) { n.Eqs[1].Right = constant(light+2, 0) },
		func(n *api.Node) { n.Eqs[1].Right = merge("l", light) },
		func(n *api.Node) { n.Autos[0].States[0].Unless[0].To = 2 },
		func(n *api.Node) { n.Autos[0].States[0].Until[1].To = -1 },
		func(n *api.Node) { n.Autos[1].States = nil },
		func(n *api.Node) { n.Ensure = make([]api.Expr, 9) },
	} {
		p := whole()
		do(&p.Nodes[2])
		_, want := shape.Check(p)
		if s, e := Program(p); e != want || (s == "") != (want != api.OK) || (want == api.OK) != (i < 3) {
			t.Errorf("the change %d: Program = %q, %d, want %d", i, s, int(e), int(want))
		}
	}
}

// TestProgramIsRead is P9.4 for programs whose names are right.
func TestProgramIsRead(t *testing.T) {
	p := whole()
	p.Nodes[2].Autos[0].States[0].Autos[1].States[0].Name = "y"
	p.Nodes[2].Eqs = append(p.Nodes[2].Eqs[1:], eq(call("one"), "m"), eq(constant(api.TBool, 0), "c"))
	if _, e := scope.Check(p); e != api.OK {
		t.Fatalf("the names are not right: error %d", int(e))
	}
	s, _ := Program(p)
	if q, at, e := parse.Program(s); e != api.OK || !shape.Same(p, q) {
		t.Errorf("error %d at %d, or another program:\n%s", int(e), at, s)
	}
	m := p.Nodes[2]
	for len(s) <= api.MaxText {
		m.Name = "m" + strings.Repeat("x", len(p.Nodes)%30)
		p.Nodes = append(p.Nodes, m)
		s, _ = Program(p)
	}
	if _, at, e := parse.Program(s); e != api.ErrLimit || at != 0 {
		t.Errorf("%d bytes: error %d at %d", len(s), int(e), at)
	}
}

// TestParsedIsRead is the second part of G1: also a program whose names are not right has a text that is read as that program, if it comes from a text.
func TestParsedIsRead(t *testing.T) {
	for _, s := range []string{
		wholeText,
		"type A = X | X | Y; type A = Y | Z; type B = W; node f(X: A; Y: A; f: B) returns (Z: bool) let Z = X; Y = merge Z (W -> g when Y(X)); (X, X) = X(Y, Y(X)) every X; tel",
		"node f(a: int; a: bool) returns (a: int) var a: int when true(b) when false(c); let a = a; (b) = a; (b, c, b) = f(); tel node f() returns (a: int) let tel",
		"node f() returns (x: int) let x = ((1)) + -2 * -3 - - -x; automaton state S unless true then S; do until a then S; done state S do x = 1; automaton state T do done end done end y = 1; automaton state U do done end tel",
		"node f(a: bool) returns (x: int) ensure a -> a -> a; assume if a then if a then a else a else a when true(a); let x = if a then 1 else 2 fby 3; tel",
		"node f(a: bool) returns (x: int) let x = 1 -> 2 fby 3 or 4 and 5 = 6 + 7 * 8; y = f(a) every g() every 'one' ; tel",
		"",
	} {
		s = strings.ReplaceAll(s, "'one'", "'1(0)'")
		p, at, e := parse.Program(s)
		if e != api.OK {
			t.Fatalf("%q is refused with the error %d at %d", s, int(e), at)
		}
		text, e := Program(p)
		if e != api.OK {
			t.Errorf("%q: Program = %d", s, int(e))
		}
		if q, at, e := parse.Program(text); e != api.OK || !shape.Same(p, q) {
			t.Errorf("error %d at %d, or another program than that of %q:\n%s", int(e), at, s, text)
		}
		if again, _ := Program(p); again != text {
			t.Errorf("another text of %q", s)
		}
	}
}
