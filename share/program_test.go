package share

import (
	"math/rand"
	"slices"
	"strconv"
	"strings"
	"testing"

	"synchrony/api"
	"synchrony/norm"
	"synchrony/samples"
	"synchrony/sched"
	"synchrony/sim"
	"synchrony/simp"
	"synchrony/value"
)

// doubled returns a program whose last node computes each of its variables twice, on clocks of its own. The names end with the suffix.
func doubled(n api.NProgram, suffix string) api.NProgram {
	n = deepCopy(n)
	x := &n.Nodes[len(n.Nodes)-1]
	inputs := map[string]bool{}
	for _, d := range x.In {
		inputs[d.Name] = true
	}
	second := deepCopy(*x)
	for _, place := range refPlaces(&second) {
		if !inputs[*place] {
			*place += suffix
		}
	}
	for _, l := range [][]api.Decl{second.Out, second.Locals} {
		for i := range l {
			l[i].Name += suffix
		}
	}
	for _, eq := range second.Eqs {
		for i := range eq.Left {
			eq.Left[i] += suffix
		}
	}
	x.Out, x.Locals, x.Eqs = append(x.Out, second.Out...), append(x.Locals, second.Locals...), append(x.Eqs, second.Eqs...)
	return n
}

// variables returns where an expression reads variables, except those by which it samples or merges.
func variables(e *api.Expr) []*string {
	var l []*string
	if e.Kind == api.EVar {
		l = append(l, &e.Name)
	}
	for i := range e.Args {
		l = append(l, variables(&e.Args[i])...)
	}
	return l
}

// clocked replaces some inputs by delays of them, also where they are clock variables, and returns these delays.
func clocked(r *rand.Rand, x *api.NNode, suffix string) []api.NEq {
	var added []api.NEq
	for _, d := range x.In {
		if r.Intn(2) == 0 {
			continue
		}
		name := d.Name + "_c" + suffix
		for _, place := range refPlaces(x) {
			if *place == d.Name {
				*place = name
			}
		}
		x.Locals = append(x.Locals, api.Decl{Name: name, Type: d.Type})
		added = append(added, fby(name, 0, v(d.Name)))
	}
	return added
}

// delayed returns a program whose nodes have some more delays, of the inputs and of each other, which are read instead of the inputs.
func delayed(r *rand.Rand, n api.NProgram, suffix string) api.NProgram {
	n = deepCopy(n)
	for i := range n.Nodes {
		x := &n.Nodes[i]
		added := clocked(r, x, suffix)
		from := map[string][]string{} // for an input, it and its delays
		for _, d := range x.In {
			from[d.Name] = []string{d.Name}
			for k := range r.Intn(4) {
				name := d.Name + "_" + strconv.Itoa(k) + suffix
				x.Locals = append(x.Locals, api.Decl{Name: name, Type: d.Type})
				right := pick(r, append(from[d.Name], name)...)
				added = append(added, fby(name, r.Intn(min(value.Size(n.Enums, d.Type), 2))*r.Intn(2), v(right)))
				from[d.Name] = append(from[d.Name], name)
			}
		}
		for k := range x.Eqs {
			eq := &x.Eqs[k]
			places := variables(&eq.Right)
			for i := range eq.Args {
				places = append(places, variables(&eq.Args[i])...)
			}
			for _, place := range append(places, &eq.Every) {
				if l := from[*place]; len(l) > 0 {
					*place = pick(r, l...)
				}
			}
		}
		x.Eqs = append(x.Eqs, added...)
		r.Shuffle(len(x.Eqs), func(i, k int) { x.Eqs[i], x.Eqs[k] = x.Eqs[k], x.Eqs[i] })
	}
	return n
}

// expectSame checks that the nodes of b have the outputs of those of a.
func expectSame(t *testing.T, r *rand.Rand, a, b api.NProgram) {
	t.Helper()
	p, q := norm.Back(a), norm.Back(b)
	for _, n := range a.Nodes {
		x, e := sim.New(p, n.Name)
		y, f := sim.New(q, n.Name)
		if e != api.OK || f != api.OK {
			t.Fatalf("New returns the errors %d and %d", int(e), int(f))
		}
		for _, row := range samples.Rows(r.Intn, a.Enums, n.In, 12) {
			want, _ := x.Step(row)
			if l, e := y.Step(row); e != api.OK || !slices.Equal(l, want) {
				t.Fatalf("at %d the outputs of %s are %v, want %v; the error is %d", x.Time(), n.Name, l, want, int(e))
			}
		}
	}
}

// clockDelays returns the variables of delays in the clocks of a node.
func clockDelays(n api.NNode) map[string]bool {
	l := map[string]bool{}
	delays := map[string]bool{}
	for _, i := range refDelays(n) {
		delays[n.Eqs[i].Left[0]] = true
	}
	add := func(ck []api.On) {
		for _, x := range ck {
			if delays[x.Name] {
				l[x.Name] = true
			}
		}
	}
	for _, d := range slices.Concat(n.In, n.Out, n.Locals) {
		add(d.Clock)
	}
	for _, x := range n.Eqs {
		add(x.Clock)
	}
	return l
}

// expectShared checks P25.3 and P25.5 for a program in normal form, and returns the result and how many delays it has less.
func expectShared(t *testing.T, r *rand.Rand, n api.NProgram) (api.NProgram, int) {
	t.Helper()
	before := deepCopy(n)
	is := must(t, Program, n)
	if !norm.Same(n, before) {
		t.Fatalf("the argument has changed")
	}
	expectNewMemory(t, n, is)
	if e := norm.Check(is); e != api.OK {
		t.Fatalf("%v\nbecomes\n%v, which has the error %d", n, is, int(e))
	}
	want := api.NProgram{Enums: n.Enums}
	less := 0
	for i, x := range n.Nodes {
		want.Nodes = append(want.Nodes, refNode(x))
		a, b := len(refDelays(x)), len(refDelays(is.Nodes[i]))
		if b > a {
			t.Errorf("%v\nhas less delays than\n%v", x, is.Nodes[i])
		}
		less += a - b
		for _, part := range Parts(is.Nodes[i]) {
			if len(part) > 1 && len(clockDelays(is.Nodes[i])) == 0 {
				t.Errorf("%v\nhas the parts %v", is.Nodes[i], Parts(is.Nodes[i]))
			}
		}
	}
	if !norm.Same(is, want) {
		t.Fatalf("%v\nbecomes\n%v, want\n%v", n, is, want)
	}
	expectSame(t, r, n, is)
	return is, less
}

// expectAll checks a program, shared, simplified, shared and scheduled.
func expectAll(t *testing.T, r *rand.Rand, n api.NProgram) int {
	t.Helper()
	shared, less := expectShared(t, r, n)
	simple := must(t, simp.Program, shared)
	expectSame(t, r, n, simple)
	again, more := expectShared(t, r, simple)
	expectSame(t, r, n, must(t, sched.Program, again))
	return less + more
}

// TestTexts is P25.3, P25.5 and G4, for programs with automata, too.
func TestTexts(t *testing.T) {
	r := rand.New(rand.NewSource(5))
	less := 0
	for _, s := range samples.Texts() {
		n := read(t, s)
		for _, suffix := range []string{"a", "b", "c", "d"} {
			less += expectAll(t, r, n)
			less += expectAll(t, r, doubled(n, "_two"))
			n = delayed(r, n, suffix)
		}
	}
	if less < 60 {
		t.Errorf("there are %d delays less", less)
	}
}

// TestRandom is P25.3, P25.5 and G4 for random programs in normal form.
func TestRandom(t *testing.T) {
	r := rand.New(rand.NewSource(6))
	less, clocks, again := 0, 0, 0
	for range 150 {
		n := delayed(r, samples.Program(r.Intn), "")
		less += expectAll(t, r, n)
		n = doubled(n, "_two")
		less += expectAll(t, r, n)
		last := n.Nodes[len(n.Nodes)-1]
		clocks += len(clockDelays(last)) - len(clockDelays(Node(last)))
		for _, part := range Parts(Node(last)) {
			again += len(part) - 1
		}
		if t.Failed() {
			return
		}
	}
	if less < 300 || clocks < 50 || again < 5 {
		t.Errorf("there are %d delays less; %d clock variables less; %d delays can be shared later", less, clocks, again)
	}
}

// TestCounters is the example of the chapter: counters that add to themselves are not shared. Common definitions that do not depend on the delays make them equal.
func TestCounters(t *testing.T) {
	n := read(t, "node f() returns (x: int; y: int) var u: int; v: int; let x = 0 fby u; u = x + 1; y = 0 fby v; v = y + 1; tel")
	if parts := Parts(n.Nodes[0]); !sameParts(parts, [][]int{{0}, {2}}) {
		t.Errorf("the parts are %v", parts)
	}
	if shared := must(t, Program, n); !norm.Same(shared, n) {
		t.Errorf("the counters become %v", shared)
	}
	n = read(t, "node f(a: int) returns (x: int; y: int) var u: int; v: int; let x = 0 fby u; u = a + 1; y = 0 fby v; v = a + 1; tel")
	want := read(t, "node f(a: int) returns (x: int; y: int) var u: int; let x = 0 fby u; u = a + 1; y = x; tel")
	if shared := must(t, Program, must(t, simp.Program, n)); !norm.Same(shared, want) {
		t.Errorf("the delays of equal sums become %v", shared)
	}
}

// wrongPrograms have the errors of norm.Check.
func wrongPrograms() map[api.Errno]api.NProgram {
	g := api.NNode{Name: "g", Out: decl("x y"), Eqs: []api.NEq{fby("x", 0, number(1)), def("y", v("x"))}}
	with := func(change func(n *api.NNode)) api.NProgram {
		n := deepCopy(g)
		n.Name = "f"
		change(&n)
		return api.NProgram{Nodes: []api.NNode{g, n}}
	}
	return map[api.Errno]api.NProgram{
		api.ErrForm:  with(func(n *api.NNode) { n.Eqs[0].Right = when("c", v("x")) }),
		api.ErrName:  with(func(n *api.NNode) { n.Eqs[0] = call("x", ""); n.Eqs[0].Node = "none" }),
		api.ErrTwice: with(func(n *api.NNode) { n.Name = "g" }),
		api.ErrNone:  with(func(n *api.NNode) { n.Eqs = n.Eqs[1:] }),
		api.ErrArity: with(func(n *api.NNode) { n.Eqs[0] = call("x", "") }),
		api.ErrType:  with(func(n *api.NNode) { n.Out[1].Type = api.TBool }),
		api.ErrClock: with(func(n *api.NNode) { n.Eqs[0].Clock = []api.On{on("y")} }),
		api.ErrCycle: with(func(n *api.NNode) { n.Eqs[1].Right = v("y") }),
	}
}

// TestErrors is P25.3 and P25.4: the errors of norm.Check come first, then that of the name.
func TestErrors(t *testing.T) {
	for e, n := range wrongPrograms() {
		if is := norm.Check(n); is != e {
			t.Errorf("Check returns %d, want %d", int(is), int(e))
		}
		if q, is := Program(n); is != e || !norm.Same(q, api.NProgram{}) {
			t.Errorf("Program returns %v and %d, want the error %d", q, int(is), int(e))
		}
		for _, name := range []string{"g", "none"} {
			if c, is := Delays(n, name); is != e || c != 0 {
				t.Errorf("Delays returns %d and %d, want the error %d", c, int(is), int(e))
			}
		}
	}
	n := read(t, "node f(a: int) returns (x: int) let x = 0 fby a; tel")
	for _, name := range []string{"", "g", "x", "F"} {
		if c, e := Delays(n, name); e != api.ErrName || c != 0 {
			t.Errorf("Delays of %q returns %d and %d", name, c, int(e))
		}
	}
	if n, e := Program(api.NProgram{}); e != api.OK || !norm.Same(n, api.NProgram{}) {
		t.Errorf("the empty program becomes %v; the error is %d", n, int(e))
	}
	if c, e := Delays(api.NProgram{}, ""); e != api.ErrName || c != 0 {
		t.Errorf("Delays of the empty program returns %d and %d", c, int(e))
	}
}

func expectDelays(t *testing.T, n api.NProgram, node string, want int) {
	t.Helper()
	if c, e := Delays(n, node); e != api.OK || c != want {
		t.Errorf("%s has %d delays, want %d; the error is %d", node, c, want, int(e))
	}
}

// TestDelays is P25.4.
func TestDelays(t *testing.T) {
	n := read(t, "node none(a: int) returns (x: int) let x = a; tel node one(a: int) returns (x: int) let x = 3 fby a; tel "+
		"node four(a: int) returns (x: int) var y: int; z: int; let y = one(a) + one(a); x = 0 fby z; z = 1 fby y; tel "+
		"node word(c: bool) returns (x: bool) let x = '(10)' or c; tel "+
		"node nine(a: int; c: bool) returns (x: int) let x = if word(c) then four(a) else four(none(a)) + one(a) every c; tel")
	for name, want := range map[string]int{"none": 0, "one": 1, "four": 4, "word": 0, "nine": 9} {
		expectDelays(t, n, name, want)
	}
	var count func(n api.NProgram, name string) int
	count = func(n api.NProgram, name string) int {
		i, _ := norm.Find(n, name)
		total := len(refDelays(n.Nodes[i]))
		for _, x := range n.Nodes[i].Eqs {
			if x.Kind == api.NCall {
				total += count(n, x.Node)
			}
		}
		return total
	}
	r := rand.New(rand.NewSource(7))
	for range 200 {
		n := samples.Program(r.Intn)
		before := deepCopy(n)
		for _, x := range n.Nodes {
			expectDelays(t, n, x.Name, count(n, x.Name))
		}
		if !norm.Same(n, before) {
			t.Errorf("the argument has changed")
		}
	}
}

// TestMostDelays is P25.4: numbers up to 2^40, and 2^40 for all greater ones.
func TestMostDelays(t *testing.T) {
	for _, x := range []struct {
		own  int // delays of each node
		want []int
	}{
		{0, []int{38: 1 << 38, 39: 1 << 39, 40: 1 << 40, 41: 1 << 40, 42: 1 << 40, 95: 1 << 40}},
		{1, []int{38: 1<<39 - 1, 39: 1<<40 - 1, 40: 1 << 40, 41: 1 << 40, 70: 1 << 40}},
	} {
		s := "node f0() returns (x: bool) let x = true fby x; tel "
		for i := 1; i < api.MaxNodes; i++ {
			name, called := "f"+strconv.Itoa(i), "f"+strconv.Itoa(i-1)+"()"
			s += "node " + name + "() returns (x: bool) let x = " + strings.Repeat("(true fby false) and ", x.own) + called + " or " + called + "; tel "
		}
		n := read(t, s)
		for i, want := range x.want {
			if want > 0 {
				expectDelays(t, n, "f"+strconv.Itoa(i), want)
			}
		}
	}
}
