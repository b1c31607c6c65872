package norm

import (
	"math/rand"
	"reflect"
	"slices"
	"strconv"
	"testing"

	"synchrony/accept"
	"synchrony/api"
	"synchrony/scope"
	"synchrony/shape"
	"synchrony/show"
	"synchrony/sim"
)

// somePrograms calls f with accepted programs, which are the same in each run, and their normal forms.
func somePrograms(t *testing.T, seed int64, count, late int, f func(r *rand.Rand, p api.Program, n api.NProgram)) {
	t.Helper()
	r := rand.New(rand.NewSource(seed))
	for count > 0 {
		p := someProgram(r, late)
		switch _, e := accept.Check(p); {
		case e == api.ErrInit && late > 0:
			continue
		case e != api.OK:
			t.Fatalf("the program is refused with the error %d", int(e))
		}
		count--
		before := deepCopy(p)
		n, e := Program(p)
		if e != api.OK {
			t.Errorf("Program returns the error %d", int(e))
		}
		if !shape.Same(p, before) {
			t.Error("the program became another one")
		}
		f(r, p, n)
		if t.Failed() {
			s, _ := show.Program(p)
			q, _ := show.Program(Back(n))
			t.Fatal(s, "has the normal form\n", q)
		}
	}
}

// someRows returns n rows of inputs.
func someRows(r *rand.Rand, enums []api.Enum, in []api.Decl, n int) [][]int {
	var rows [][]int
	for range n {
		var row []int
		for _, d := range in {
			switch d.Type {
			case api.TBool:
				row = append(row, r.Intn(2))
			case api.TInt:
				row = append(row, r.Intn(9)-3)
			default:
				row = append(row, r.Intn(len(enums[d.Type-api.TEnum].Tags)))
			}
		}
		rows = append(rows, row)
	}
	return rows
}

// TestNormal is P19.5: the result is in normal form, and has a normal form with the same nodes.
func TestNormal(t *testing.T) {
	kinds := map[int]int{}
	somePrograms(t, 1, 1500, 0, func(r *rand.Rand, p api.Program, n api.NProgram) {
		if e := Check(n); e != api.OK {
			t.Errorf("Check returns the error %d", int(e))
		}
		if again, e := Program(Back(n)); e != api.OK || !Same(again, n) {
			t.Errorf("the normal form of the normal form is another one; the error is %d", int(e))
		}
		expectNewMemory(t, "Program", p, n)
		for _, x := range n.Nodes {
			for _, eq := range x.Eqs {
				kinds[eq.Kind]++
			}
		}
	})
	if len(kinds) != 4 || min(kinds[api.NDef], kinds[api.NDelay], kinds[api.NCall], kinds[api.NWord]) < 500 {
		t.Errorf("the kinds of the equations are %v", kinds)
	}
}

// TestStructure is P19.1 and rule 9: what is added stands before the equation from which it results, and is declared and named in its order.
func TestStructure(t *testing.T) {
	added := 0
	somePrograms(t, 2, 600, 0, func(r *rand.Rand, p api.Program, n api.NProgram) {
		next, used := 0, map[string]bool{}
		for _, x := range p.Nodes {
			used[x.Name] = true
			for _, d := range scope.Vars(x) {
				used[d.Name] = true
			}
		}
		for i, x := range n.Nodes {
			was := p.Nodes[i]
			locals := slices.Clone(was.Locals)
			k := 0 // the number of equations of the node that were met
			for _, eq := range x.Eqs {
				if k < len(was.Eqs) && slices.Equal(eq.Left, was.Eqs[k].Left) {
					k++
					continue
				}
				for next++; used["aux_"+strconv.Itoa(next)]; next++ {
				}
				name := "aux_" + strconv.Itoa(next)
				d := api.Decl{Name: name, Clock: eq.Clock}
				if j := len(locals); j < len(x.Locals) {
					d.Type = x.Locals[j].Type
				}
				locals = append(locals, d)
				if !slices.Equal(eq.Left, []string{name}) || k == len(was.Eqs) {
					t.Errorf("the equation of %v comes after %d ones; %s is next", eq.Left, k, name)
				}
				added++
			}
			want := api.NNode{Name: was.Name, In: was.In, Out: was.Out, Locals: locals, Eqs: x.Eqs}
			if k != len(was.Eqs) || !Same(api.NProgram{Nodes: []api.NNode{x}}, api.NProgram{Nodes: []api.NNode{want}}) {
				t.Errorf("%s has %d of %d equations; the locals are %v, want %v", x.Name, k, len(was.Eqs), x.Locals, locals)
			}
		}
	})
	if added < 10000 {
		t.Errorf("only %d variables are added", added)
	}
}

// compare compares executions of a node of both programs: the outputs, and the variables of the plain program.
func compare(t *testing.T, plain, back api.Program, n api.Node, rows [][]int) (undefined int) {
	t.Helper()
	a, e := sim.New(plain, n.Name)
	b, f := sim.New(back, n.Name)
	if e != api.OK || f != api.OK {
		t.Fatalf("New returns the errors %d and %d", int(e), int(f))
	}
	for _, row := range rows {
		want, _ := a.Step(row)
		if l, e := b.Step(row); e != api.OK || !slices.Equal(l, want) {
			t.Errorf("at %d the outputs of %s are %v, want %v, the error is %d", a.Time(), n.Name, l, want, int(e))
		}
		for _, d := range scope.Vars(n) {
			want, _ := a.Look(d.Name)
			c, ok := b.Look(d.Name)
			if want.Kind == api.Undef {
				undefined++
			} else if c != want || !ok {
				t.Errorf("at %d %s of %s is %v, want %v", a.Time(), d.Name, n.Name, c, want)
			}
			if c.Kind == api.Undef {
				t.Errorf("at %d %s of %s is undefined", a.Time(), d.Name, n.Name)
			}
		}
	}
	return undefined
}

// TestEquivalence is P19.6 and G4.
func TestEquivalence(t *testing.T) {
	for _, late := range []int{0, 1} {
		undefined := 0
		somePrograms(t, 3, 700, late, func(r *rand.Rand, p api.Program, n api.NProgram) {
			back := Back(n)
			for _, x := range p.Nodes {
				undefined += compare(t, p, back, x, someRows(r, p.Enums, x.In, 10))
			}
		})
		if (undefined > 20) != (late > 0) {
			t.Errorf("there were %d undefined cells", undefined)
		}
	}
}

// TestAutomata is P19.6 and G4 for programs that are not plain.
func TestAutomata(t *testing.T) {
	for _, s := range []string{
		"node f() returns (x: int) let automaton state A do x = 0 -> (pre x) + 1; until x >= 2 then B; done state B do x = 9; until true then A; done end tel",
		"node f(c: bool; a: int) returns (x: int; y: int) var z: int; let z = 0 -> pre z + a; automaton state A unless c continue B; do x = z; automaton state C do y = 1 fby y + a; until a > 1 then D; done state D do y = 0 -> pre a; until y < a continue C; done end done " +
			"state B var l: int; do l = a -> pre x - 1; x = l * 2; y = if c then x else 0; until a = 3 then A; done end tel",
		"type E = P | Q; node g(a: int) returns (x: E) let automaton state S do x = P; until a > 0 then T; done state T do x = Q fby P; until a < 0 then S; done end tel " +
			"node f(a: int; c: bool) returns (x: int) var k: bool; e: E; m: int when Q(e); let k = '1(10)'; e = g(a) every (c and k); m = 0 fby m + a when Q(e); x = merge e (P -> 0) (Q -> m); tel",
	} {
		p := read(t, s)
		back := Back(normal(t, s, p))
		plain, _ := accept.Plain(p)
		r := rand.New(rand.NewSource(4))
		for _, x := range plain.Nodes {
			compare(t, plain, back, x, someRows(r, plain.Enums, x.In, 40))
		}
		for _, x := range p.Nodes {
			rows := someRows(r, p.Enums, x.In, 40)
			want, _ := sim.Run(p, x.Name, rows)
			if l, e := sim.Run(back, x.Name, rows); e != api.OK || !reflect.DeepEqual(l, want) {
				t.Errorf("%s: the outputs of %s are %v, want %v", s, x.Name, l, want)
			}
		}
	}
}
