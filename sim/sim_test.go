package sim

import (
	"reflect"
	"slices"
	"strings"
	"testing"

	"synchrony/api"
)

const double = "node f(a: int) returns (x: int) let x = a * 2; tel"

// TestNew is P17.1.
func TestNew(t *testing.T) {
	tooMany := strings.Repeat("automaton state S do done state T do done state U do done state V do done state W do done state X do done state Y do done state Z do done end ", 8)
	for _, x := range []struct {
		program, node string
		want          api.Errno
	}{
		{double, "f", api.OK},
		{"node f() returns (x: int) let x = pre x + 1; tel", "f", api.OK}, // initialization is not checked
		{"node f(c: bool) returns (x: int) var d: bool; y: int when true(d); let d = pre c; y = 1; x = 0; tel", "f", api.OK},
		{"", "f", api.ErrName},
		{double, "g", api.ErrName},
		{double, "", api.ErrName},
		{double, "x", api.ErrName},
		{"node f() returns (x: int) let x = true; tel", "f", api.ErrType},
		{"node f() returns (x: int) let x = y; tel", "f", api.ErrName},
		{"node f() returns (x: int) let tel", "f", api.ErrNone},
		{"node f() returns (x: int) let x = 1; x = 1; tel", "f", api.ErrTwice},
		{"node f() returns (x: int) let x = f(); tel", "f", api.ErrName},
		{double + " node g() returns (x: int) let x = f(); tel", "f", api.ErrArity},
		{"node f(a: int; c: bool) returns (x: int) let x = a + (a when true(c)); tel", "f", api.ErrClock},
		{"node f(a: int; c: bool) returns (x: int) let automaton state S do x = a when true(c); done end tel", "f", api.ErrClock},
		{"node f(a: int; c: bool) returns (x: int) var y: int when true(c); let automaton state S do x = y; done end y = 1; tel", "f", api.ErrClock}, // found in the expanded program
		{"node f() returns (x: int) let x = x + 1; tel", "f", api.ErrCycle},
		{"node f() returns (x: int) let automaton state S do x = x; done end tel", "f", api.ErrCycle},
		{"node f() returns (x: int) var y: int; let y = x; automaton state S do x = pre y; done end tel", "f", api.ErrCycle}, // found in the expanded program
		{"node f() returns (x: int) let x = 1; " + tooMany + "tel node g() returns (x: int) let x = 1; " + tooMany + "tel", "f", api.ErrLimit},
		// the errors of nodes that are not executed, and of all nodes ahead of that of the name
		{double + " node g() returns (x: int) let x = x; tel", "f", api.ErrCycle},
		{double + " node g() returns (x: int) let x = x; tel", "h", api.ErrCycle},
		{double + " node g(c: bool) returns (x: int) let x = 1 when true(c); tel", "h", api.ErrClock},
		{double + " node g() returns (x: int) let x = false; tel", "h", api.ErrType},
		// in their order
		{"node f() returns (x: int) let x = x; tel node g(c: bool) returns (x: int) let x = 1 when true(c); tel", "f", api.ErrClock},
		{"node f(c: bool) returns (x: int) let x = 1 when true(c); tel node g() returns (x: int) let x = false; tel", "f", api.ErrType},
		{"node f() returns (x: int) let x = x; " + tooMany + "tel node g(c: bool) returns (x: int) let x = 1 when true(c); " + tooMany + "tel", "f", api.ErrLimit},
		{"node f() returns (x: int) let x = false; " + tooMany + "tel node g() returns (x: int) let x = 1; " + tooMany + "tel", "f", api.ErrType},
	} {
		s, e := New(read(t, x.program), x.node)
		if e != x.want || (s != nil) != (e == api.OK) {
			t.Errorf("%.200s: New of %q returns the error %d, want %d", x.program, x.node, int(e), int(x.want))
		}
	}
}

// TestStepErrors is P17.2.
func TestStepErrors(t *testing.T) {
	p := read(t, "type E = P | Q | R; node f(a: int; b: bool; e: E) returns (x: int; y: bool) let x = 0 fby x + a; y = b and e = R; tel")
	s := start(t, p)
	for _, x := range []struct {
		in   []int
		want api.Errno
	}{
		{nil, api.ErrArity},
		{[]int{1, 1}, api.ErrArity},
		{[]int{1, 1, 1, 1}, api.ErrArity},
		{[]int{40000, 1}, api.ErrArity},
		{[]int{32768, 1, 1}, api.ErrRange},
		{[]int{-32769, 1, 1}, api.ErrRange},
		{[]int{1, 2, 1}, api.ErrRange},
		{[]int{1, -1, 1}, api.ErrRange},
		{[]int{1, 1, 3}, api.ErrRange},
		{[]int{1, 1, -1}, api.ErrRange},
		{[]int{1 << 40, 1, 1}, api.ErrRange},
	} {
		for range 2 { // before the first instant, and after it
			if l, e := s.Step(x.in); e != x.want || l != nil {
				t.Errorf("Step(%v) returns %v and the error %d, want %d", x.in, l, int(e), int(x.want))
			}
		}
		before := s.Time()
		if l := step(t, s, -32768, 0, 0); s.Time() != before+1 || before%2 == 0 && l[0] != is(0) || before%2 == 1 && l[0] != is(-32768) {
			t.Errorf("after the error of %v: %v at the time %d", x.in, l, s.Time())
		}
		s.Step(x.in)
		if c, ok := s.Look("a"); !ok || c != is(-32768) || s.Time() != before+1 {
			t.Errorf("%v changed the execution: a is %v at the time %d", x.in, c, s.Time())
		}
	}
	if l := step(t, s, 32767, 1, 2); len(l) != 2 || l[1] != is(1) {
		t.Errorf("the greatest values: %v", l)
	}
}

// TestLook is P17.3.
func TestLook(t *testing.T) {
	p := read(t, "node f(a: int; c: bool) returns (x: int; y: int) var l: int; m: int when true(c); let l = pre a; m = a when true(c); y = 7; automaton state S var k: int; do k = a; x = k; done end tel")
	s := start(t, p)
	want := func(name string, c api.Cell, ok bool) {
		t.Helper()
		if is, found := s.Look(name); is != c || found != ok {
			t.Errorf("Look(%q) at the time %d is %v, %v, want %v, %v", name, s.Time(), is, found, c, ok)
		}
	}
	names := []string{"a", "c", "x", "y", "l", "m"}
	for range 2 {
		for _, name := range names {
			want(name, api.Cell{}, false)
		}
		for i, row := range [][]int{{5, 0}, {6, 1}, {7, 0}} {
			step(t, s, row...)
			cells := [][]api.Cell{{is(5), is(0), is(5), is(7), undefined, {}}, {is(6), is(1), is(6), is(7), is(5), is(6)}, {is(7), is(0), is(7), is(7), is(6), {}}}[i]
			for k, name := range names {
				want(name, cells[k], true)
			}
			for _, name := range []string{"", "k", "f", "S", "z", "next_1", "part_1"} { // k is a local of the state, not of the node
				want(name, api.Cell{}, false)
			}
		}
		s.Reset()
	}
}

// TestClaims is P17.3, for Assumed and Ensured.
func TestClaims(t *testing.T) {
	for _, x := range []struct{ claims, rows, assumed, ensured string }{
		{"", "1 2", "1 1", "1 1"},
		{"assume a > 1;", "1 2 1", "0 1 0", "1 1 1"},
		{"ensure x > 2;", "1 2 1", "1 1 1", "0 1 0"},
		{"assume a > 1; assume a < 3; ensure x > 2; ensure x < 5; ensure a <> 2;", "1 2 3", "0 1 0", "0 0 0"},
		{"assume pre a = 1; ensure a > 1;", "1 2 3", "? 1 0", "0 1 1"},
		{"assume a > 1; assume pre a = 1;", "1 2 3", "? 1 0", "1 1 1"},
		{"assume pre a = 1; assume a > 1;", "1 2 3", "? 1 0", "1 1 1"},
		{"ensure false; ensure pre x = 2;", "1 2", "1 1", "? 0"},
		{"assume '(10)'; assume true -> pre (a = 1); ensure '(110)'; ensure n() = x;", "0 1 1 4", "1 0 1 0", "1 0 0 0"},
		{"ensure (n() every (a = 2)) < 2; ensure n() > 0;", "0 1 1 2 1 1", "1 1 1 1 1 1", "0 1 0 1 1 0"},
		{"assume g(a) > 0;", "1 2", "1 1", "1 1"}, // the claims of g are not considered
	} {
		const nodes = counter + "node g(a: int) returns (x: int) assume a > 5; ensure x > 9; let x = a; tel "
		p := read(t, nodes+"node f(a: int) returns (x: int) "+x.claims+" let x = 2 * g(a); tel")
		s := start(t, p)
		for range 2 {
			if s.Assumed() != (api.Cell{}) || s.Ensured() != (api.Cell{}) {
				t.Errorf("%s: at the beginning %v and %v", x.claims, s.Assumed(), s.Ensured())
			}
			var assumed, ensured []api.Cell
			for _, row := range rowsOf(x.rows) {
				step(t, s, row...)
				assumed, ensured = append(assumed, s.Assumed()), append(ensured, s.Ensured())
			}
			if a, e := text(assumed), text(ensured); a != x.assumed || e != x.ensured {
				t.Errorf("%s: assumed %s, want %s, and ensured %s, want %s", x.claims, a, x.assumed, e, x.ensured)
			}
			s.Reset()
		}
	}
}

// TestNil: the calls for no execution, and for one that was not made by New.
func TestNil(t *testing.T) {
	for i, s := range []*Sim{nil, {}} {
		l, e := s.Step(nil)
		if l != nil || e != api.ErrNil {
			t.Errorf("Step of %d returns %v and the error %d", i, l, int(e))
		}
		if c, ok := s.Look("x"); c != (api.Cell{}) || ok {
			t.Errorf("Look of %d returns %v", i, c)
		}
		if s.Assumed() != (api.Cell{}) || s.Ensured() != (api.Cell{}) || s.Time() != 0 || s.Copy() != nil {
			t.Errorf("%d has cells, a time or a copy", i)
		}
		s.Reset()
		if s.Time() != 0 {
			t.Errorf("%d has a time after Reset", i)
		}
	}
}

// TestRun is P17.5.
func TestRun(t *testing.T) {
	p := read(t, "node f(a: int; b: bool) returns (x: int; y: bool) let x = pre a; y = not b; tel node g() returns (z: int) let z = 0 fby z + 1; tel")
	l, e := Run(p, "f", [][]int{{1, 0}, {2, 1}})
	if want := [][]api.Cell{{undefined, is(1)}, {is(1), is(0)}}; e != api.OK || !reflect.DeepEqual(l, want) {
		t.Errorf("Run returns %v and the error %d", l, int(e))
	}
	tr, e := Trace(p, "f", [][]int{{1, 0}, {2, 1}})
	want := api.Trace{
		Cols: []api.Decl{{Name: "a", Type: api.TInt}, {Name: "b", Type: api.TBool}, {Name: "x", Type: api.TInt}, {Name: "y", Type: api.TBool}},
		Rows: [][]api.Cell{{is(1), is(0), undefined, is(1)}, {is(2), is(1), is(1), is(0)}},
	}
	if e != api.OK || !reflect.DeepEqual(tr, want) {
		t.Errorf("Trace returns %v and the error %d", tr, int(e))
	}
	if tr, e := Trace(p, "f", nil); e != api.OK || !reflect.DeepEqual(tr.Cols, want.Cols) || len(tr.Rows) != 0 {
		t.Errorf("Trace of no rows returns %v and the error %d", tr, int(e))
	}
	tr, e = Trace(p, "g", make([][]int, api.MaxRows))
	if e != api.OK || len(tr.Cols) != 1 || len(tr.Rows) != api.MaxRows || !slices.Equal(tr.Rows[4095], []api.Cell{is(4095)}) {
		t.Errorf("Trace of the greatest number of rows returns the error %d", int(e))
	}
}

// TestRunErrors is P17.5: each error, and of two ones the first.
func TestRunErrors(t *testing.T) {
	p := read(t, "node f(a: int; b: bool) returns (x: int) let x = a; tel")
	cyclic := read(t, "node f(a: int; b: bool) returns (x: int) let x = x; tel")
	right, short, wrong := []int{1, 1}, []int{1}, []int{1, 2}
	for i, x := range []struct {
		p    api.Program
		node string
		rows [][]int
		want api.Errno
	}{
		{p, "f", nil, api.OK},
		{p, "f", slices.Repeat([][]int{right}, api.MaxRows), api.OK},
		{p, "f", slices.Repeat([][]int{right}, api.MaxRows+1), api.ErrLimit},
		{p, "f", slices.Repeat([][]int{short}, api.MaxRows+1), api.ErrLimit},
		{p, "f", [][]int{right, right, short}, api.ErrArity},
		{p, "f", [][]int{right, wrong, right}, api.ErrRange},
		{p, "f", [][]int{right, wrong, short}, api.ErrRange},
		{p, "f", [][]int{short, wrong}, api.ErrArity},
		{p, "g", [][]int{right}, api.ErrName},
		{p, "g", slices.Repeat([][]int{short}, api.MaxRows+1), api.ErrName},
		{cyclic, "f", slices.Repeat([][]int{short}, api.MaxRows+1), api.ErrCycle},
		{cyclic, "f", nil, api.ErrCycle},
	} {
		l, e := Run(x.p, x.node, x.rows)
		if e != x.want || e == api.OK && len(l) != len(x.rows) || e != api.OK && l != nil {
			t.Errorf("%d: Run returns %d rows and the error %d, want %d", i, len(l), int(e), int(x.want))
		}
		tr, e := Trace(x.p, x.node, x.rows)
		if e != x.want || e == api.OK && len(tr.Rows) != len(x.rows) || e != api.OK && !reflect.DeepEqual(tr, api.Trace{}) {
			t.Errorf("%d: Trace returns %d rows and the error %d, want %d", i, len(tr.Rows), int(e), int(x.want))
		}
	}
}
