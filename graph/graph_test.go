package graph

import (
	"math"
	"math/rand"
	"slices"
	"testing"

	"synchrony/api"
)

// TestErrors is the chapter's section Errors.
func TestErrors(t *testing.T) {
	check := func(n int, l []api.Edge, from int) {
		t.Helper()
		if o, e := Order(n, l); len(o) != 0 || e != api.ErrArg {
			t.Errorf("Order(%d, %v) = %v, %d", n, l, o, e)
		}
		if c, e := Cycle(n, l); len(c) != 0 || e != api.ErrArg {
			t.Errorf("Cycle(%d, %v) = %v, %d", n, l, c, e)
		}
		if r, e := Reach(n, l, from); len(r) != 0 || e != api.ErrArg {
			t.Errorf("Reach(%d, %v, %d) = %v, %d", n, l, from, r, e)
		}
		if p, e := Parts(n, l); len(p) != 0 || e != api.ErrArg {
			t.Errorf("Parts(%d, %v) = %v, %d", n, l, p, e)
		}
	}
	for _, n := range []int{-1, -64, 4097, math.MinInt, math.MaxInt} {
		check(n, nil, 0)
		check(n, edges(0, 0), 0)
	}
	for _, n := range []int{0, 1, 3, 64, 65} {
		for _, v := range []int{-1, n, n + 1, math.MinInt, math.MaxInt} {
			check(n, edges(v, v), 0)
			if n > 0 {
				check(n, edges(v, 0), 0)
				check(n, edges(0, v), 0)
				check(n, edges(0, 0, 0, n-1, 0, v), 0)
			}
		}
	}
}

// TestReachFrom is P4.3 with a vertex that the graph does not have.
func TestReachFrom(t *testing.T) {
	for _, n := range []int{0, 1, 3, 64, 4096} {
		for _, from := range []int{-1, n, n + 1, math.MinInt, math.MaxInt} {
			if r, e := Reach(n, nil, from); len(r) != 0 || e != api.ErrArg {
				t.Errorf("Reach(%d, nil, %d) = %v, %d", n, from, r, e)
			}
		}
	}
}

// TestExamples has the examples of P4.1 to P4.4, and choices among several shortest cycles.
func TestExamples(t *testing.T) {
	if l, e := Order(4, edges(2, 0, 0, 3)); e != api.OK || !slices.Equal(l, []int{1, 2, 0, 3}) {
		t.Errorf("Order: %v, %d", l, e)
	}
	if l, e := Order(3, nil); e != api.OK || !slices.Equal(l, []int{0, 1, 2}) {
		t.Errorf("Order: %v, %d", l, e)
	}
	if l, e := Order(3, edges(1, 1)); e != api.ErrCycle || len(l) != 0 {
		t.Errorf("Order: %v, %d", l, e)
	}
	for _, x := range []struct{ edges, want []int }{
		{[]int{0, 1, 1, 2, 2, 0, 4, 3, 3, 4}, []int{3, 4}},
		{[]int{1, 1}, []int{1}},
		{[]int{0, 1, 1, 0, 0, 2, 2, 0}, []int{0, 1}},
		{[]int{0, 1, 1, 0, 4, 4, 3, 3}, []int{3}},
		{[]int{4, 3, 3, 2, 2, 4, 0, 3, 3, 1, 1, 0}, []int{0, 3, 1}},
		{[]int{0, 4, 4, 1, 1, 0, 0, 3, 3, 2, 2, 0}, []int{0, 3, 2}},
		{[]int{0, 3, 3, 4, 4, 0, 3, 1, 1, 0}, []int{0, 3, 1}},
	} {
		if l, e := Cycle(5, edges(x.edges...)); e != api.OK || !slices.Equal(l, x.want) {
			t.Errorf("Cycle of %v: %v, %d, want %v", x.edges, l, e, x.want)
		}
	}
	if l, e := Reach(3, edges(1, 2), 1); e != api.OK || !slices.Equal(l, []bool{false, true, true}) {
		t.Errorf("Reach: %v, %d", l, e)
	}
	if l, e := Parts(4, edges(0, 2, 2, 0, 2, 1)); e != api.OK || !sameParts(l, [][]int{{0, 2}, {1}, {3}}) {
		t.Errorf("Parts: %v, %d", l, e)
	}
	if l, e := Parts(3, nil); e != api.OK || !sameParts(l, [][]int{{0}, {1}, {2}}) {
		t.Errorf("Parts: %v, %d", l, e)
	}
}

// TestNoVertices is P4.1, P4.2 and P4.4 for the empty graph.
func TestNoVertices(t *testing.T) {
	for _, none := range [][]api.Edge{nil, {}} {
		if l, e := Order(0, none); e != api.OK || len(l) != 0 {
			t.Errorf("Order: %v, %d", l, e)
		}
		if l, e := Cycle(0, none); e != api.ErrNone || len(l) != 0 {
			t.Errorf("Cycle: %v, %d", l, e)
		}
		if l, e := Parts(0, none); e != api.OK || len(l) != 0 {
			t.Errorf("Parts: %v, %d", l, e)
		}
	}
}

// TestOrder is P4.1.
func TestOrder(t *testing.T) {
	check := func(n int, l []api.Edge) {
		m := matrix(n, l)
		o, e := Order(n, l)
		_, c := Cycle(n, l)
		if (e == api.ErrCycle) != (c == api.OK) || (e == api.ErrCycle) != cyclic(paths(m)) {
			t.Fatalf("Order(%d, %v): %d, Cycle: %d", n, l, e, c)
		}
		if e == api.ErrCycle {
			if len(o) != 0 {
				t.Fatalf("Order(%d, %v) = %v with an error", n, l, o)
			}
			return
		}
		if want := leastOrder(m); e != api.OK || !slices.Equal(o, want) {
			t.Fatalf("Order(%d, %v) = %v, %d, want %v", n, l, o, e, want)
		}
		for _, x := range l {
			if slices.Index(o, x.From) >= slices.Index(o, x.To) {
				t.Fatalf("Order(%d, %v) = %v", n, l, o)
			}
		}
	}
	everySmallGraph(check)
	someGraphs(check)
}

// TestCycle is P4.2.
func TestCycle(t *testing.T) {
	check := func(n int, l []api.Edge) {
		c, e := Cycle(n, l)
		want, wantE := leastCycle(matrix(n, l)), api.OK
		if want == nil {
			wantE = api.ErrNone
		}
		if !slices.Equal(c, want) || e != wantE {
			t.Fatalf("Cycle(%d, %v) = %v, %d, want %v", n, l, c, e, want)
		}
	}
	everySmallGraph(check)
	someGraphs(func(n int, l []api.Edge) {
		if n < 10 {
			check(n, l)
		}
	})
}

// TestLongCycles is P4.2 for cycles that are long or that begin late.
func TestLongCycles(t *testing.T) {
	for _, n := range []int{2, 63, 64, 65, 128, 700} {
		closed := append(chain(n), api.Edge{From: n - 1, To: 0})
		if c, e := Cycle(n, closed); e != api.OK || !slices.Equal(c, upTo(n)) {
			t.Errorf("a cycle of %d: %v, %d", n, c, e)
		}
		late := append(chain(n), api.Edge{From: n - 1, To: n - 2})
		if c, e := Cycle(n, late); e != api.OK || !slices.Equal(c, []int{n - 2, n - 1}) {
			t.Errorf("a late cycle of %d: %v, %d", n, c, e)
		}
	}
	back := edges(0, 3, 3, 2, 2, 1, 1, 0, 4, 8, 8, 6, 6, 7, 7, 4, 5, 9, 9, 5)
	if c, _ := Cycle(10, back[:8]); !slices.Equal(c, []int{0, 3, 2, 1}) {
		t.Errorf("%v", c)
	}
	if c, _ := Cycle(10, back); !slices.Equal(c, []int{5, 9}) {
		t.Errorf("%v", c)
	}
}

// TestReach is P4.3.
func TestReach(t *testing.T) {
	check := func(n int, l []api.Edge) {
		p := paths(matrix(n, l))
		for from := range n {
			want := slices.Clone(p[from])
			want[from] = true
			if r, e := Reach(n, l, from); e != api.OK || !slices.Equal(r, want) {
				t.Fatalf("Reach(%d, %v, %d) = %v, %d, want %v", n, l, from, r, e, want)
			}
		}
	}
	everySmallGraph(check)
	someGraphs(check)
}

// TestParts is P4.4.
func TestParts(t *testing.T) {
	check := func(n int, l []api.Edge) {
		want := parts(paths(matrix(n, l)))
		if p, e := Parts(n, l); e != api.OK || !sameParts(p, want) {
			t.Fatalf("Parts(%d, %v) = %v, %d, want %v", n, l, p, e, want)
		}
	}
	everySmallGraph(check)
	someGraphs(check)
}

// TestRepetition is P4.5.
func TestRepetition(t *testing.T) {
	r := rand.New(rand.NewSource(5))
	someGraphs(func(n int, l []api.Edge) {
		mixed := slices.Concat(l, l[:len(l)/2], l)
		r.Shuffle(len(mixed), func(i, j int) { mixed[i], mixed[j] = mixed[j], mixed[i] })
		a, e := Order(n, l)
		b, f := Order(n, mixed)
		if !slices.Equal(a, b) || e != f {
			t.Fatalf("Order(%d, %v) = %v, %d, or %v, %d", n, l, a, e, b, f)
		}
		a, e = Cycle(n, l)
		b, f = Cycle(n, mixed)
		if !slices.Equal(a, b) || e != f {
			t.Fatalf("Cycle(%d, %v) = %v, %d, or %v, %d", n, l, a, e, b, f)
		}
		from := r.Intn(n)
		x, e := Reach(n, l, from)
		y, f := Reach(n, mixed, from)
		if !slices.Equal(x, y) || e != f {
			t.Fatalf("Reach(%d, %v, %d) = %v, %d, or %v, %d", n, l, from, x, e, y, f)
		}
		p, e := Parts(n, l)
		q, f := Parts(n, mixed)
		if !sameParts(p, q) || e != f {
			t.Fatalf("Parts(%d, %v) = %v, %d, or %v, %d", n, l, p, e, q, f)
		}
	})
}

// TestArgumentsAndResults is rule 4.
func TestArgumentsAndResults(t *testing.T) {
	l := edges(2, 0, 0, 2, 1, 3, 2, 0)
	unchanged(t, l, func() {
		Order(4, l)
		Cycle(4, l)
		Reach(4, l, 1)
		p, _ := Parts(4, l)
		for i := range p {
			_ = append(p[i], -1)
		}
		if !sameParts(p, [][]int{{0, 2}, {1}, {3}}) {
			t.Errorf("the parts %v share memory", p)
		}
	})
}

// TestGreatestGraphs is P4.1 to P4.4 for graphs at the limit; each one would take very long if a function were not about linear in its edges, or Cycle in vertices times edges.
func TestGreatestGraphs(t *testing.T) {
	const n = 4096
	path, full := chain(n), dense(n)
	ring := append(slices.Clone(path), api.Edge{From: n - 1, To: 0})
	// The upper half leads back to 0 on the only way that there is, so that the least cycle is long although there are many edges.
	half := append(dense(n/2), ring[n/2-1:]...)
	longest := append([]int{0}, upTo(n)[n/2-1:]...)
	for _, l := range [][]api.Edge{path, full} {
		if o, e := Order(n, l); e != api.OK || !slices.Equal(o, upTo(n)) {
			t.Errorf("Order: %d", e)
		}
		if c, e := Cycle(n, l); e != api.ErrNone || len(c) != 0 {
			t.Errorf("Cycle: %v, %d", c, e)
		}
		if p, e := Parts(n, l); e != api.OK || len(p) != n || p[n-1][0] != n-1 {
			t.Errorf("Parts: %d, %d", len(p), e)
		}
	}
	for _, x := range []struct {
		edges []api.Edge
		cycle []int
	}{{ring, upTo(n)}, {append(full, api.Edge{From: n - 1, To: 0}), []int{0, n - 1}}, {half, longest}} {
		if c, e := Cycle(n, x.edges); e != api.OK || !slices.Equal(c, x.cycle) {
			t.Errorf("Cycle has %d vertices, %d", len(c), e)
		}
		if o, e := Order(n, x.edges); e != api.ErrCycle || len(o) != 0 {
			t.Errorf("Order: %d", e)
		}
		if p, e := Parts(n, x.edges); e != api.OK || len(p) != 1 || !slices.Equal(p[0], upTo(n)) {
			t.Errorf("Parts: %d, %d", len(p), e)
		}
		if r, e := Reach(n, x.edges, n-1); e != api.OK || len(r) != n || slices.Contains(r, false) {
			t.Errorf("Reach: %d", e)
		}
	}
}
