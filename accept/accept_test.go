package accept

import (
	"math/rand"
	"reflect"
	"strings"
	"testing"

	"synchrony/api"
	"synchrony/cause"
	"synchrony/clocks"
	"synchrony/modes"
	"synchrony/shape"
	"synchrony/starts"
	"synchrony/types"
)

// change is a change of the full text that makes it wrong, with the error and its place.
type change struct {
	old, new string
	where    api.Where
	want     api.Errno
}

// tooMany adds states, which are more than an expanded program can have nodes.
func tooMany() change {
	autos := strings.Repeat("automaton state A do done state B do done state C do done state D do done state E do done state F do done end ", api.MaxAutos)
	node := func(name string) string {
		return "node " + name + "(a: int) returns (x: int) let x = a; " + autos + "tel "
	}
	return change{"node last", node("first") + node("second") + "node last", api.Where{Node: -1, Eq: -1}, api.ErrLimit}
}

// changes are in the order in which their errors come. From the check of clocks on, the places are those of the expanded program, whose nodes are
// count, pair, and those of the states Idle, Low, High and Busy, and then main and last.
func changes() []change {
	at := func(node, eq int) api.Where { return api.Where{Node: node, Eq: eq} }
	return []change{
		{"type Light", "type Light = Off; type Light", at(-1, -1), api.ErrTwice},
		{"node count(r: bool)", "node count(r: bool; r: bool)", at(0, -1), api.ErrTwice},
		{"late = pre a;", "late = pre l;", at(1, 0), api.ErrType},
		{"until k > 20 continue", "until k + 20 continue", at(2, -1), api.ErrType},
		tooMany(),
		{"c when false(c)", "c", at(1, 4), api.ErrClock},
		{"busy = true;", "busy = true when true(stop);", at(5, 1), api.ErrClock},
		{"+ 1, Green)", "+ 1, Green when true(stop))", at(6, 0), api.ErrClock},
		{"(1 -> late) when", "late when", at(1, 1), api.ErrInit},
		{"0 -> pre k + y", "pre (0 -> k + y)", at(5, 10), api.ErrInit},
		{"z = a;", "z = pre a;", at(7, -1), api.ErrInit},
		{"m = l fby merge", "m = l -> merge", at(1, 5), api.ErrCycle},
		{"x = k - count(stop)", "x = x - count(stop)", at(4, 0), api.ErrCycle},
		{"= pair(a", "= pair(x", at(6, 0), api.ErrCycle},
	}
}

func expectCheck(t *testing.T, what string, p api.Program, where api.Where, want api.Errno) {
	t.Helper()
	before := deepCopy(p)
	if w, e := Check(p); w != where || e != want {
		t.Errorf("%s: Check returns %v and the error %d, want %v and %d", what, w, int(e), where, int(want))
	}
	q, e := Plain(p)
	if (e == api.OK) != (want == api.OK) || e != api.OK && (e != api.ErrProgram || !reflect.DeepEqual(q, api.Program{})) {
		t.Errorf("%s: Plain returns %d nodes and the error %d", what, len(q.Nodes), int(e))
	}
	for _, name := range []string{"main", "none"} {
		if in, out, e := Ports(p, name); want != api.OK && (e != api.ErrProgram || in != nil || out != nil) {
			t.Errorf("%s: Ports returns %v, %v and the error %d", what, in, out, int(e))
		}
	}
	if !shape.Same(p, before) {
		t.Errorf("%s: the program became another one", what)
	}
}

// TestExamples has the examples of the chapter, of P18.1.
func TestExamples(t *testing.T) {
	for _, x := range []struct {
		text  string
		where api.Where
		want  api.Errno
	}{
		{"", api.Where{}, api.OK},
		{"type E = P;", api.Where{}, api.OK},
		{"node f() returns (x: int) let x = 0 -> pre x + 1; tel", api.Where{}, api.OK},
		{"node f() returns (x: int) let x = pre x; tel", api.Where{}, api.ErrInit},
		{"node f() returns (x: int) let x = pre x + 1; tel", api.Where{}, api.ErrInit},
		{"node f(a: int) returns (x: int) let x = pre a; tel", api.Where{Eq: -1}, api.ErrInit},
		{"node f() returns (x: int; y: int) let x = y; y = x; tel", api.Where{}, api.ErrCycle},
		{"node f(a: int; c: bool) returns (x: int) let x = a + (a when true(c)); tel", api.Where{}, api.ErrClock},
		{fullText, api.Where{}, api.OK},
	} {
		expectCheck(t, x.text, read(t, x.text), x.where, x.want)
	}
}

// TestErrors is P18.1: each error alone, and of two ones the first.
func TestErrors(t *testing.T) {
	l := changes()
	for i, c := range l {
		expectCheck(t, c.new, full(t, c), c.where, c.want)
		for _, d := range l[i+1:] {
			expectCheck(t, c.new+" and "+d.new, full(t, c, d), c.where, c.want)
		}
	}
	p := full(t)
	p.Nodes[0].Out = nil // an error of the shape
	expectCheck(t, "a node without outputs", p, api.Where{Node: 0, Eq: -1}, api.ErrNone)
	expectCheck(t, "a node without a name", api.Program{Nodes: []api.Node{{}}}, api.Where{Node: 0, Eq: -1}, api.ErrName)
}

// first returns the first error of the checks that P18.1 lists.
func first(p api.Program) (api.Where, api.Errno) {
	where, e := types.Check(p)
	if e != api.OK {
		return where, e
	}
	q, e := modes.Expand(p)
	if e != api.OK {
		return api.Where{Node: -1, Eq: -1}, e
	}
	if where, e = clocks.Check(q); e != api.OK {
		return where, e
	}
	if where, e = starts.Check(q); e != api.OK {
		return where, e
	}
	return cause.Check(q)
}

// TestSpoilt is P18.1 and P18.4 for programs with changes anywhere.
func TestSpoilt(t *testing.T) {
	r := rand.New(rand.NewSource(1))
	errors := map[int]int{}
	for range 3000 {
		p := full(t)
		for range 1 + r.Intn(3) {
			spoil(r, &p)
		}
		where, want := first(p)
		expectCheck(t, "a changed program", p, where, want)
		errors[int(want)]++
		accepted := want == api.OK
		for len(p.Nodes) > 0 {
			p.Nodes = p.Nodes[:len(p.Nodes)-1]
			_, e := Check(p)
			if accepted && e != api.OK {
				t.Errorf("the first %d nodes of an accepted program are refused with the error %d", len(p.Nodes), int(e))
			}
			accepted = e == api.OK
		}
	}
	if len(errors) < 9 || errors[int(api.OK)] < 100 || errors[int(api.ErrClock)] < 20 || errors[int(api.ErrCycle)] < 10 {
		t.Errorf("the errors are %v", errors)
	}
}

// TestPrefix is P18.4, for the full program and for an error in each of its nodes.
func TestPrefix(t *testing.T) {
	p := full(t)
	for n := range p.Nodes {
		expectCheck(t, "the first nodes", api.Program{Enums: p.Enums, Nodes: p.Nodes[:n]}, api.Where{}, api.OK)
	}
	for _, x := range []struct {
		change
		node int // which one becomes wrong
	}{
		{change{old: "(0 fby n) + 1", new: "n + 1"}, 0},
		{change{old: "late = pre a;", new: "late = pre pre a;"}, 1},
		{change{old: "x = k - count(stop)", new: "x = x"}, 2},
		{change{old: "z = a;", new: "z = pre a;"}, 3},
	} {
		p := full(t, x.change)
		for n := range len(p.Nodes) + 1 {
			if _, e := Check(api.Program{Enums: p.Enums, Nodes: p.Nodes[:n]}); (e == api.OK) != (n <= x.node) {
				t.Errorf("%s: the first %d nodes have the error %d", x.new, n, int(e))
			}
		}
	}
}
