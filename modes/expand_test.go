package modes

import (
	"cmp"
	"math/rand"
	"reflect"
	"slices"
	"strconv"
	"strings"
	"testing"

	"synchrony/api"
	"synchrony/lex"
	"synchrony/shape"
	"synchrony/show"
)

// TestExample is the example of the chapter, of P15.1.
func TestExample(t *testing.T) {
	expectText(t, "node f() returns (x: int) let automaton state A do x = 0 -> (pre x) + 1; until x >= 2 then B; done state B do x = 9; until true then A; done end tel",
		`type mode_1 = at_1 | at_2;
node body_1() returns (x: int; next_1: mode_1; back_1: bool)
  var cond_1: bool;
let
  x = 0 -> ((pre x) + 1);
  cond_1 = x >= 2;
  next_1 = if cond_1 then at_2 else at_1;
  back_1 = if cond_1 then true else false;
tel
node body_2() returns (x: int; next_3: mode_1; back_3: bool)
  var cond_2: bool;
let
  x = 9;
  cond_2 = true;
  next_3 = if cond_2 then at_1 else at_2;
  back_3 = if cond_2 then true else false;
tel
node f() returns (x: int)
  var was_1: mode_1; flag_1: bool; now_1: mode_1; reset_1: bool; part_1: int when at_1(now_1); next_2: mode_1 when at_1(now_1); back_2: bool when at_1(now_1); part_2: int when at_2(now_1); next_4: mode_1 when at_2(now_1); back_4: bool when at_2(now_1); next_5: mode_1; back_5: bool;
let
  was_1 = at_1 fby next_5;
  flag_1 = false fby back_5;
  now_1 = merge was_1 (at_1 -> at_1) (at_2 -> at_2);
  reset_1 = merge was_1 (at_1 -> flag_1 when at_1(was_1)) (at_2 -> flag_1 when at_2(was_1));
  (part_1, next_2, back_2) = body_1() every (reset_1 when at_1(now_1));
  (part_2, next_4, back_4) = body_2() every (reset_1 when at_2(now_1));
  x = merge now_1 (at_1 -> part_1) (at_2 -> part_2);
  next_5 = merge now_1 (at_1 -> next_2) (at_2 -> next_4);
  back_5 = merge now_1 (at_1 -> back_2) (at_2 -> back_4);
tel
`)
}

// fullText has all that an automaton can have, and names that are like added ones.
const fullText = `
type mode_1 = at_1 | at_3;
node next_1(cond_2: int) returns (y: int)
let
  y = cond_2;
tel
node f(a: bool; b: int; c: bool) returns (x: int; z: bool)
  var part_1: int; u: mode_1; now_1: bool;
  assume b > 0;
  ensure x > 0 or z;
let
  now_1 = a and c;
  automaton
    state A
      var l: int; k: bool when true(a);
      unless c then B;
      unless b = 3 continue A;
    do
      z = pre l > b;
      k = true;
      automaton
        state back_1
          unless z then body_2;
        do
          x = part_1 fby x;
          l = 0;
          until x > 7 continue back_1;
          until x > 8 then body_2;
        done
        state body_2
        do
          l = next_1(x) every now_1;
          x = 5;
        done
      end
      until z then B;
      until l = 4 continue A;
    done
    state B
    do
      x = 1;
      z = u = at_3;
      until x = b continue A;
    done
  end
  automaton
    state A
      unless x > 0 then A;
    do
      u = at_3;
      part_1 = b + (0 fby part_1);
    done
  end
tel
`

// fullExpanded is written from the chapter: the automata of f come first, then the one in the body of its state A.
const fullExpanded = `type mode_1 = at_1 | at_3;
type mode_2 = at_2 | at_4;
type mode_3 = at_5;
type mode_4 = at_6 | at_7;
node next_1(cond_2: int) returns (y: int)
let
  y = cond_2;
tel
node body_5(part_1: int) returns (x: int; l: int; next_10: mode_4; back_10: bool)
  var cond_9: bool; cond_10: bool;
let
  x = part_1 fby x;
  l = 0;
  cond_9 = x > 7;
  cond_10 = x > 8;
  next_10 = if cond_9 then at_6 else if cond_10 then at_7 else at_6;
  back_10 = if cond_9 then false else if cond_10 then true else false;
tel
node body_6(now_1: bool) returns (x: int; l: int; next_12: mode_4; back_12: bool)
let
  l = next_1(x) every now_1;
  x = 5;
  next_12 = at_7;
  back_12 = false;
tel
node body_1(a: bool; b: int; part_1: int; now_1: bool) returns (z: bool; x: int; next_2: mode_2; back_2: bool)
  var l: int; k: bool when true(a); cond_4: bool; cond_5: bool; was_3: mode_4; flag_3: bool; cond_8: bool; now_4: mode_4; reset_3: bool; part_8: int when at_6(now_4); part_9: int when at_6(now_4); next_11: mode_4 when at_6(now_4); back_11: bool when at_6(now_4); part_10: int when at_7(now_4); part_11: int when at_7(now_4); next_13: mode_4 when at_7(now_4); back_13: bool when at_7(now_4); next_14: mode_4; back_14: bool;
let
  z = (pre l) > b;
  k = true;
  cond_4 = z;
  cond_5 = l = 4;
  next_2 = if cond_4 then at_4 else if cond_5 then at_2 else at_2;
  back_2 = if cond_4 then true else if cond_5 then false else false;
  was_3 = at_6 fby next_14;
  flag_3 = false fby back_14;
  cond_8 = z;
  now_4 = merge was_3 (at_6 -> if cond_8 when at_6(was_3) then at_7 else at_6) (at_7 -> at_7);
  reset_3 = merge was_3 (at_6 -> if cond_8 when at_6(was_3) then true else flag_3 when at_6(was_3)) (at_7 -> flag_3 when at_7(was_3));
  (part_8, part_9, next_11, back_11) = body_5(part_1 when at_6(now_4)) every (reset_3 when at_6(now_4));
  (part_10, part_11, next_13, back_13) = body_6(now_1 when at_7(now_4)) every (reset_3 when at_7(now_4));
  x = merge now_4 (at_6 -> part_8) (at_7 -> part_10);
  l = merge now_4 (at_6 -> part_9) (at_7 -> part_11);
  next_14 = merge now_4 (at_6 -> next_11) (at_7 -> next_13);
  back_14 = merge now_4 (at_6 -> back_11) (at_7 -> back_13);
tel
node body_3(b: int; u: mode_1) returns (z: bool; x: int; next_4: mode_2; back_4: bool)
  var cond_6: bool;
let
  x = 1;
  z = u = at_3;
  cond_6 = x = b;
  next_4 = if cond_6 then at_2 else at_4;
  back_4 = if cond_6 then false else false;
tel
node body_4(b: int) returns (u: mode_1; part_1: int; next_7: mode_3; back_7: bool)
let
  u = at_3;
  part_1 = b + (0 fby part_1);
  next_7 = at_5;
  back_7 = false;
tel
node f(a: bool; b: int; c: bool) returns (x: int; z: bool)
  var part_1: int; u: mode_1; now_1: bool; was_1: mode_2; flag_1: bool; cond_1: bool; cond_3: bool; now_2: mode_2; reset_1: bool; part_2: bool when at_2(now_2); part_3: int when at_2(now_2); next_3: mode_2 when at_2(now_2); back_3: bool when at_2(now_2); part_4: bool when at_4(now_2); part_5: int when at_4(now_2); next_5: mode_2 when at_4(now_2); back_5: bool when at_4(now_2); next_6: mode_2; back_6: bool; was_2: mode_3; flag_2: bool; cond_7: bool; now_3: mode_3; reset_2: bool; part_6: mode_1 when at_5(now_3); part_7: int when at_5(now_3); next_8: mode_3 when at_5(now_3); back_8: bool when at_5(now_3); next_9: mode_3; back_9: bool;
  assume b > 0;
  ensure (x > 0) or z;
let
  now_1 = a and c;
  was_1 = at_2 fby next_6;
  flag_1 = false fby back_6;
  cond_1 = c;
  cond_3 = b = 3;
  now_2 = merge was_1 (at_2 -> if cond_1 when at_2(was_1) then at_4 else if cond_3 when at_2(was_1) then at_2 else at_2) (at_4 -> at_4);
  reset_1 = merge was_1 (at_2 -> if cond_1 when at_2(was_1) then true else if cond_3 when at_2(was_1) then false else flag_1 when at_2(was_1)) (at_4 -> flag_1 when at_4(was_1));
  (part_2, part_3, next_3, back_3) = body_1(a when at_2(now_2), b when at_2(now_2), part_1 when at_2(now_2), now_1 when at_2(now_2)) every (reset_1 when at_2(now_2));
  (part_4, part_5, next_5, back_5) = body_3(b when at_4(now_2), u when at_4(now_2)) every (reset_1 when at_4(now_2));
  z = merge now_2 (at_2 -> part_2) (at_4 -> part_4);
  x = merge now_2 (at_2 -> part_3) (at_4 -> part_5);
  next_6 = merge now_2 (at_2 -> next_3) (at_4 -> next_5);
  back_6 = merge now_2 (at_2 -> back_3) (at_4 -> back_5);
  was_2 = at_5 fby next_9;
  flag_2 = false fby back_9;
  cond_7 = x > 0;
  now_3 = merge was_2 (at_5 -> if cond_7 when at_5(was_2) then at_5 else at_5);
  reset_2 = merge was_2 (at_5 -> if cond_7 when at_5(was_2) then true else flag_2 when at_5(was_2));
  (part_6, part_7, next_8, back_8) = body_4(b when at_5(now_3)) every (reset_2 when at_5(now_3));
  u = merge now_3 (at_5 -> part_6);
  part_1 = merge now_3 (at_5 -> part_7);
  next_9 = merge now_3 (at_5 -> next_8);
  back_9 = merge now_3 (at_5 -> back_8);
tel
`

// TestFull is P15.1.
func TestFull(t *testing.T) {
	expectText(t, fullText, fullExpanded)
}

// TestOrder is P15.1: node by node, the automata of a node before those in their states, and these body by body.
func TestOrder(t *testing.T) {
	inner := "automaton state S do x = 0; done state T do x = 0; done end"
	outer := "automaton state S do " + inner + " done state T do " + inner + " done end "
	p := read(t, "node f() returns (x: int; y: int) let "+outer+strings.ReplaceAll(outer, "x", "y")+"tel node g() returns (z: int) let z = 1; tel node h() returns (x: int) let "+outer+"tel")
	q := expand(t, "automata in automata", p)
	var names []string
	for _, n := range q.Nodes {
		names = append(names, n.Name)
	}
	// f has the bodies 1 to 4, each of which has two ones; h has 13 and 14.
	want := "body_5 body_6 body_1 body_7 body_8 body_2 body_9 body_10 body_3 body_11 body_12 body_4 f g body_15 body_16 body_13 body_17 body_18 body_14 h"
	if s := strings.Join(names, " "); s != want {
		t.Errorf("the nodes are %s, want %s", s, want)
	}
	modes := map[string]string{"f": "mode_1 mode_2", "body_1": "mode_3", "body_2": "mode_4", "body_3": "mode_5", "body_4": "mode_6", "h": "mode_7", "body_13": "mode_8", "body_14": "mode_9"}
	for _, n := range q.Nodes {
		var l []string
		for _, d := range n.Locals {
			if strings.HasPrefix(d.Name, "now") {
				l = append(l, q.Enums[d.Type-api.TEnum].Name)
			}
		}
		if s := strings.Join(l, " "); s != modes[n.Name] {
			t.Errorf("the automata of %s have the enumerations %s, want %s", n.Name, s, modes[n.Name])
		}
	}
	for i, x := range q.Enums {
		if s := strings.Join(x.Tags, " "); s != "at_"+strconv.Itoa(2*i+1)+" at_"+strconv.Itoa(2*i+2) {
			t.Errorf("%s has the tags %s", x.Name, s)
		}
	}
}

// TestReads has each place in which a body reads a name, and those in which it does not: the inputs of the body of the state S.
func TestReads(t *testing.T) {
	for _, c := range []struct{ name, locals, unless, body, until, want string }{
		{"nothing", "", "", "x = 1;", "", ""},
		{"the left side", "", "", "x = 1;", "", ""},
		{"a right side", "", "", "x = a;", "", "a"},
		{"several ones", "var l: int;", "", "x = l + d; l = b + a;", "", "a b d"},
		{"a defined variable", "", "", "x = x fby a;", "", "a"},
		{"a conditional", "", "", "x = if c then a else b;", "", "a b c"},
		{"a delay", "", "", "x = 0 -> pre a;", "", "a"},
		{"a second argument", "", "", "x = 0 fby b;", "", "b"},
		{"a call", "", "", "x = g(a) every c;", "", "a c"},
		{"a name of a node", "", "", "x = g(1);", "", ""},
		{"a constant", "", "", "x = if e = P then 1 else 2;", "", "e"},
		{"a merge", "", "", "x = merge e (P -> 1) (Q -> b when Q(e));", "", "b e"},
		{"a sampling", "var l: int when true(c);", "", "l = 1 when true(c); x = 1;", "", "c"},
		{"the clock of a local", "var l: int when true(c);", "", "l = 1; x = 1;", "", "c"},
		{"the second sampling", "var l: int when true(c) when Q(e);", "", "l = 1; x = 1;", "", "c e"},
		{"the clock of the second local", "var k: int; l: int when P(e);", "", "k = 1; l = 1; x = 1;", "", "e"},
		{"a local as a clock", "var k: bool; l: int when true(k);", "", "k = true; l = 1; x = 1;", "", ""},
		{"an until condition", "", "", "x = 1;", "until a > b then S;", "a b"},
		{"the second one", "", "", "x = 1;", "until x = 1 then S; until c continue T;", "c"},
		{"an unless condition", "", "unless c then S; unless a = b then T;", "x = d;", "", "d"},
		{"an output", "", "", "x = y + z;", "", "y z"},
		{"the other state", "", "", "x = 2;", "until true then T;", ""},
		{"an inner right side", "", "", "automaton state U do x = a; done state V do x = b; done end", "", "a b"},
		{"an inner unless condition", "", "", "automaton state U unless a > 0 then U; do x = 1; done state V unless b > 0 then U; unless x > 0 continue V; unless c then V; do x = 1; done end", "", "a b c"},
		{"an inner until condition", "", "", "automaton state U do x = 1; until a > 0 then U; done state V do x = 1; until b > 0 then U; until c then V; done end", "", "a b c"},
		{"an inner local", "", "", "automaton state U var l: int when true(c); do x = 1; l = 2; done state V var k: int; do x = k; k = d; done end", "", "c d"},
		{"a second inner automaton", "var l: int;", "", "x = 1; automaton state U do l = a; done end automaton state U do done end", "", "a"},
		{"an automaton in it", "", "", "automaton state U do automaton state V unless c then V; do x = b; until a = 0 then V; done end done end", "", "a b c"},
		{"a local of a state inside", "var l: int;", "", "l = 1; automaton state U unless l > 0 then U; do x = l + a; done end", "", "a"},
	} {
		text := "type E = P | Q; node g(a: int) returns (x: int) let x = a; tel node main(a: int; b: int; c: bool) returns (x: int; y: int) var d: int; e: E; z: int; let automaton state S " + c.locals + c.unless +
			" do " + c.body + c.until + " done state T do x = a + z; until c then S; done end y = 1; automaton state U do d = b; z = 0; done end e = P; tel"
		q := expand(t, c.name, read(t, text))
		i := slices.IndexFunc(q.Nodes, func(n api.Node) bool { return n.Name == "body_1" })
		var l []string
		for _, d := range q.Nodes[i].In {
			l = append(l, d.Name)
		}
		want := strings.Fields(c.want)
		slices.SortFunc(want, func(a, b string) int { // the order of scope.Vars
			return cmp.Compare(strings.Index("abcxydez", a), strings.Index("abcxydez", b))
		})
		if !slices.Equal(l, want) {
			t.Errorf("%s: the body reads %v, want %v", c.name, l, want)
		}
	}
}

// TestDefined: the variables that an automaton defines are in the order of its first state, each at its first occurrence.
func TestDefined(t *testing.T) {
	p := read(t, `node two() returns (x: int; y: bool) let x = 1; y = true; tel
		node f() returns (a: int; b: int; c: int; d: bool; e: int) let
		automaton
			state S var l: bool; k: int; do
				k = 1;
				automaton state S do a = 1; (e, l) = two(); done end
				(c, d) = two();
				automaton state S do b = 2; done end
			done
			state T do a = 1; b = 1; c = 1; d = true; e = 1; done
		end tel`)
	q := expand(t, "several variables", p)
	for _, n := range q.Nodes[1:] {
		var l []string
		for _, d := range n.Out {
			l = append(l, d.Name+":"+strconv.Itoa(d.Type))
		}
		want := map[string]string{
			"body_1": "c:2 d:1 a:2 e:2 b:2 next_1:3 back_1:1", "body_2": "c:2 d:1 a:2 e:2 b:2 next_3:3 back_3:1",
			"body_3": "a:2 e:2 l:1 next_6:4 back_6:1", "body_4": "b:2 next_9:5 back_9:1", "f": "a:2 b:2 c:2 d:1 e:2",
		}[n.Name]
		if s := strings.Join(l, " "); s != want {
			t.Errorf("%s has the outputs %s, want %s", n.Name, s, want)
		}
	}
}

// TestBaseClock: ports and merged variables are on the base clock, also where the declared ones are not.
func TestBaseClock(t *testing.T) {
	p := read(t, "node f(c: bool) returns (x: int) var y: int when true(c); z: int when true(c); let x = 1; y = 2; automaton state S do z = y; done end tel")
	q := expand(t, "a variable with a clock", p)
	want := "node body_1(y: int) returns (z: int; next_1: mode_1; back_1: bool)\nlet\n  z = y;\n  next_1 = at_1;\n  back_1 = false;\ntel\n"
	if s, _ := show.Program(api.Program{Enums: q.Enums, Nodes: q.Nodes[:1]}); s != "type mode_1 = at_1;\n"+want {
		t.Errorf("the body is\n%s", s)
	}
	if d := q.Nodes[1].Locals[1]; d.Name != "z" || len(d.Clock) != 1 {
		t.Errorf("the local z became %v", d)
	}
}

// TestNames: each added name has the least number that is neither in the program, as a name of any kind, nor added before.
func TestNames(t *testing.T) {
	text := "type E = P; node f(a: int) returns (x: int) var v: int; let v = a; automaton state S var l: int when true(c); c: bool; do c = true; l = 1; automaton state U var k: int; do k = 1; x = k; done end done end tel"
	bases := []string{"mode", "at", "was", "flag", "now", "reset", "body", "next", "back", "part"}
	for _, name := range []string{"E", "P", "f", "a", "x", "v", "S", "l", "c", "U", "k"} {
		for _, base := range bases {
			p := read(t, strings.NewReplacer(" "+name+" ", " "+base+"_1 ", " "+name+":", " "+base+"_1:", "("+name+":", "("+base+"_1:", " "+name+";", " "+base+"_1;", " "+name+"(", " "+base+"_1(", "("+name+")", "("+base+"_1)").Replace(text))
			added := addedNames(t, p, expand(t, name+" as "+base+"_1", p))
			for _, other := range bases {
				if slices.Contains(added, other+"_1") == (other == base) {
					t.Errorf("%s as %s_1: the added names are %v", name, base, added)
				}
			}
		}
	}
}

// TestCondNames is TestNames for the base cond, between names that are in the program.
func TestCondNames(t *testing.T) {
	p := read(t, "node cond_2() returns (cond_4: int) let cond_4 = 1; tel node f() returns (x: int; cond_01: int; cond_: bool; cond_1x: bool) let cond_01 = 1; cond_ = true; cond_1x = true; automaton state S unless true then S; do x = 1; until false then S; until true then S; done state cond_6 unless true then S; do x = 2; until true then cond_6; done end tel")
	added := addedNames(t, p, expand(t, "names of conditions", p))
	added = slices.DeleteFunc(added, func(s string) bool { return !strings.HasPrefix(s, "cond") })
	if want := []string{"cond_1", "cond_3", "cond_5", "cond_7", "cond_8"}; !slices.Equal(added, want) {
		t.Errorf("the names are %v, want %v", added, want)
	}
}

// identifiers returns the identifiers in the text of a program.
func identifiers(t *testing.T, p api.Program) map[string]bool {
	t.Helper()
	s, e := show.Program(p)
	tokens, _, scanned := lex.Scan(s)
	if e != api.OK || scanned != api.OK {
		t.Fatalf("the program has no text: errors %d, %d", int(e), int(scanned))
	}
	l := map[string]bool{}
	for _, x := range tokens {
		if x.Kind == api.TokIdent {
			l[x.Text] = true
		}
	}
	return l
}

// addedNames returns the names that q declares and that are not in p. Each one must be declared once.
func addedNames(t *testing.T, p, q api.Program) []string {
	t.Helper()
	var l []string
	for _, x := range q.Enums {
		l = append(append(l, x.Name), x.Tags...)
	}
	for _, n := range q.Nodes {
		l = append(l, n.Name)
		for _, d := range slices.Concat(n.In, n.Out, n.Locals) {
			l = append(l, d.Name)
		}
	}
	old := identifiers(t, p)
	l = slices.DeleteFunc(l, func(s string) bool { return old[s] })
	slices.Sort(l)
	if len(slices.Compact(slices.Clone(l))) < len(l) {
		t.Errorf("a name is added twice: %v", l)
	}
	return l
}

// TestMemory: the program stays as it is, the result shares no memory with it, and no two lists of the result share memory.
func TestMemory(t *testing.T) {
	r := rand.New(rand.NewSource(1))
	for i := range 100 {
		p := read(t, fullText)
		if i > 0 {
			p = read(t, someText(r))
		}
		before := deepCopy(p)
		q, e := Expand(p)
		if !reflect.DeepEqual(p, before) {
			t.Errorf("the program became %v", p)
		}
		if e != api.OK {
			continue
		}
		l := append(memory(reflect.ValueOf(p)), memory(reflect.ValueOf(q))...)
		slices.SortFunc(l, func(a, b stretch) int { return cmp.Compare(a.from, b.from) })
		for k := 1; k < len(l); k++ {
			if l[k].from < l[k-1].to {
				t.Fatal("two lists share memory")
			}
		}
		plain := deepCopy(q)
		again, _ := Expand(q)
		for j := range q.Nodes {
			q.Nodes[j].Eqs[0].Left[0] = "changed"
		}
		if !shape.Same(again, plain) {
			t.Error("the result of Expand of a plain program shares its memory")
		}
	}
}
