package build

import (
	"math/rand"
	"slices"
	"testing"

	"synchrony/api"
	"synchrony/norm"
	"synchrony/samples"
)

// expectPrune checks P30.1 for a node of a program in normal form, and returns the result.
func expectPrune(t *testing.T, n api.NProgram, node string) api.NProgram {
	t.Helper()
	before := deepCopy(n)
	is, e := Prune(n, node)
	if e != api.OK || !norm.Same(is, reference(n, node)) {
		t.Errorf("Prune of %v for %s returns %v and %d, want %v", n, node, is, int(e), reference(n, node))
	}
	if !norm.Same(n, before) {
		t.Errorf("the argument has changed")
	}
	expectNewMemory(t, n, is)
	if e := norm.Check(is); e != api.OK {
		t.Errorf("Check of %v returns %d", is, int(e))
	}
	if again, e := Prune(is, node); e != api.OK || !norm.Same(again, is) {
		t.Errorf("Prune of %v for %s returns %v and %d", is, node, again, int(e))
	}
	return is
}

// reference returns the nodes that a node needs: those of the least set with it in which there is each node that one of the set calls.
func reference(n api.NProgram, node string) api.NProgram {
	set := map[string]bool{node: true}
	for size := 0; size < len(set); {
		size = len(set)
		for _, x := range n.Nodes {
			for _, eq := range x.Eqs {
				if set[x.Name] && eq.Kind == api.NCall {
					set[eq.Node] = true
				}
			}
		}
	}
	r := api.NProgram{Enums: n.Enums}
	for _, x := range n.Nodes {
		if set[x.Name] {
			r.Nodes = append(r.Nodes, x)
		}
	}
	return r
}

// TestPrune is P30.1: the nodes that are left.
func TestPrune(t *testing.T) {
	s := node("f", "a") + node("g", "0 fby a") + node("h", "f(a, c)") + node("i", "h(a, c) + f(a, c)") + node("word", "if '(10)' then g(a, c) else 0") +
		node("j", "a + 1") + node("k", "(merge c (true -> j(a when true(c), true)) (false -> 0)) + i(1, c) every (f(1, c) > 2)") + node("l", "word(k(a, c), g(a, c) > 0)") + node("m", "1")
	n := normal(t, "type E = P | Q; "+s)
	for name, want := range map[string]string{
		"f": "f", "g": "g", "h": "f h", "i": "f h i", "word": "g word", "j": "j", "k": "f h i j k", "l": "f g h i word j k l", "m": "m",
	} {
		is := expectPrune(t, n, name)
		if names(is) != want || len(is.Enums) != 1 {
			t.Errorf("%s needs %s, want %s", name, names(is), want)
		}
		i, _ := norm.Find(n, name)
		alone := api.NProgram{Nodes: is.Nodes[len(is.Nodes)-1:]}
		if !norm.Same(alone, api.NProgram{Nodes: n.Nodes[i : i+1]}) {
			t.Errorf("%s becomes %v", name, alone)
		}
	}
	n = normal(t, node("f", "a")+node("g", "f(a, c)")+node("h", "f(a, c)"))
	if is := expectPrune(t, n, "h"); names(is) != "f h" { // the example of the chapter
		t.Errorf("h needs %s", names(is))
	}
}

// TestPruneStates is P30.1 for the nodes of states.
func TestPruneStates(t *testing.T) {
	n := normal(t, node("f", "a")+"node g(a: int) returns (x: int) let automaton state A do x = f(a, true); until a > 1 then B; done state B do x = 2; until a > 3 then A; done end tel "+
		"node h(a: int) returns (x: int) let automaton state C do x = 1; done end tel "+node("i", "g(a)"))
	for name, want := range map[string]string{"f": "f", "g": "f body_1 body_2 g", "body_1": "f body_1", "body_2": "body_2", "h": "body_3 h", "body_3": "body_3", "i": "f body_1 body_2 g i"} {
		if is := expectPrune(t, n, name); names(is) != want {
			t.Errorf("%s needs %s, want %s", name, names(is), want)
		}
	}
}

// TestPruneRandom is P30.1 for random programs.
func TestPruneRandom(t *testing.T) {
	r := rand.New(rand.NewSource(1))
	less := 0
	for range 150 {
		n := samples.Program(r.Intn)
		if r.Intn(2) == 0 {
			n = must(t, norm.Program, samples.Source(r.Intn, 3, 0))
		}
		for i, x := range n.Nodes {
			less += i + 1 - len(expectPrune(t, n, x.Name).Nodes)
		}
		if t.Failed() {
			return
		}
	}
	if less < 200 {
		t.Errorf("there are %d nodes less", less)
	}
}

// wrongPrograms have the nodes f and g, of which g needs f, and the errors of norm.Check.
func wrongPrograms(t *testing.T) map[api.Errno]api.NProgram {
	t.Helper()
	with := func(change func(n *api.NProgram)) api.NProgram {
		n := normal(t, node("f", "0 fby a")+node("g", "f(a, c)"))
		change(&n)
		return n
	}
	return map[api.Errno]api.NProgram{
		api.ErrForm:  with(func(n *api.NProgram) { n.Nodes[0].Eqs[0].Node = "f" }),
		api.ErrName:  with(func(n *api.NProgram) { slices.Reverse(n.Nodes) }),
		api.ErrTwice: with(func(n *api.NProgram) { n.Nodes = append(n.Nodes, n.Nodes[0]) }),
		api.ErrNone:  with(func(n *api.NProgram) { n.Nodes[1].Eqs = nil }),
		api.ErrArity: with(func(n *api.NProgram) { n.Nodes[1].Eqs[0].Args = nil }),
		api.ErrType:  with(func(n *api.NProgram) { n.Nodes[1].Eqs[0].Every = "a" }),
		api.ErrClock: with(func(n *api.NProgram) { n.Nodes[0].Eqs[0].Clock = []api.On{{Name: "c", T: api.TBool}} }),
		api.ErrCycle: with(func(n *api.NProgram) { n.Nodes[1].Eqs[0].Args[0].Name = "x" }),
		api.ErrLimit: with(func(n *api.NProgram) { n.Enums = make([]api.Enum, api.MaxEnums+1) }),
	}
}

// TestPruneErrors is the errors of Prune: the name comes before the errors of norm.Check, which are those of all nodes.
func TestPruneErrors(t *testing.T) {
	for e, n := range wrongPrograms(t) {
		if is := norm.Check(n); is != e {
			t.Errorf("Check returns %d, want %d", int(is), int(e))
		}
		for name, e := range map[string]api.Errno{"f": e, "g": e, "none": api.ErrName, "": api.ErrName, "x": api.ErrName, "F": api.ErrName} {
			if q, is := Prune(n, name); is != e || !empty(q) {
				t.Errorf("Prune for %q returns %v and %d, want the error %d", name, q, int(is), int(e))
			}
		}
	}
	for _, n := range []api.NProgram{{}, {Enums: samples.Enums()}} {
		if q, e := Prune(n, ""); e != api.ErrName || !empty(q) {
			t.Errorf("Prune of no nodes returns %v and %d", q, int(e))
		}
	}
}
