package graph

import (
	"math/rand"
	"slices"
	"testing"

	"synchrony/api"
)

// edges returns the edges that are listed as pairs.
func edges(ends ...int) []api.Edge {
	var l []api.Edge
	for i := 0; i < len(ends); i += 2 {
		l = append(l, api.Edge{From: ends[i], To: ends[i+1]})
	}
	return l
}

// matrix tells for each two vertices whether there is an edge.
func matrix(n int, l []api.Edge) [][]bool {
	m := make([][]bool, n)
	for v := range m {
		m[v] = make([]bool, n)
	}
	for _, e := range l {
		m[e.From][e.To] = true
	}
	return m
}

// everySmallGraph calls f with each graph of at most three vertices, and with each one of four that has no loops or no more than four edges.
func everySmallGraph(f func(n int, l []api.Edge)) {
	for n := range 4 {
		for code := range 1 << (n * n) {
			f(n, coded(n, code))
		}
	}
	for code := range 1 << 16 {
		l := coded(4, code)
		if len(l) <= 4 || !slices.ContainsFunc(l, func(e api.Edge) bool { return e.From == e.To }) {
			f(4, l)
		}
	}
}

// coded has an edge for each bit of the code.
func coded(n, code int) []api.Edge {
	var l []api.Edge
	for i := range n * n {
		if code>>i&1 == 1 {
			l = append(l, api.Edge{From: i / n, To: i % n})
		}
	}
	return l
}

// someGraphs calls f with graphs of different sizes that are the same in each run, with cycles or without.
func someGraphs(f func(n int, l []api.Edge)) {
	r := rand.New(rand.NewSource(4))
	for range 400 {
		n := 1 + r.Intn(9)
		var l []api.Edge
		for range r.Intn(2 * n) {
			l = append(l, api.Edge{From: r.Intn(n), To: r.Intn(n)})
		}
		f(n, l)
		names := r.Perm(n)
		var acyclic []api.Edge
		for _, e := range l {
			if names[e.From] < names[e.To] {
				acyclic = append(acyclic, e)
			}
		}
		f(n, acyclic)
	}
	for _, n := range []int{63, 64, 65, 128, 129, 200} {
		for _, m := range []int{n / 2, n, 2 * n, 5 * n} {
			var l []api.Edge
			for range m {
				l = append(l, api.Edge{From: r.Intn(n), To: r.Intn(n)})
			}
			f(n, l)
		}
	}
}

// paths tells for each two vertices whether there is a path of one or more edges.
func paths(m [][]bool) [][]bool {
	p := make([][]bool, len(m))
	for v := range m {
		p[v] = slices.Clone(m[v])
	}
	for via := range p {
		for v := range p {
			for w := range p {
				if p[v][via] && p[via][w] {
					p[v][w] = true
				}
			}
		}
	}
	return p
}

// cyclic tells whether a vertex has a path of one or more edges to itself.
func cyclic(p [][]bool) bool {
	for v := range p {
		if p[v][v] {
			return true
		}
	}
	return false
}

// leastOrder builds the order as the chapter says, vertex by vertex.
func leastOrder(m [][]bool) []int {
	var l []int
	for range m {
		for v := range m {
			ready := !slices.Contains(l, v)
			for u := range m {
				if m[u][v] && !slices.Contains(l, u) {
					ready = false
				}
			}
			if ready {
				l = append(l, v)
				break
			}
		}
	}
	return l
}

// leastCycle returns the first of all cycles, in the order of their lengths and then of their lists; nil if there is none.
func leastCycle(m [][]bool) []int {
	for size := 1; size <= len(m); size++ {
		for v := range m {
			if l := extend(m, []int{v}, size); l != nil {
				return l
			}
		}
	}
	return nil
}

// extend returns the least cycle of a size that begins with l, and whose first vertex is its least one.
func extend(m [][]bool, l []int, size int) []int {
	last := l[len(l)-1]
	if len(l) == size {
		if m[last][l[0]] {
			return l
		}
		return nil
	}
	for w := l[0] + 1; w < len(m); w++ {
		if m[last][w] && !slices.Contains(l, w) {
			if found := extend(m, append(slices.Clone(l), w), size); found != nil {
				return found
			}
		}
	}
	return nil
}

// parts returns the components by the definition.
func parts(p [][]bool) [][]int {
	var l [][]int
	for v := range p {
		var part []int
		for w := range p {
			if v == w || p[v][w] && p[w][v] {
				part = append(part, w)
			}
		}
		if part[0] == v {
			l = append(l, part)
		}
	}
	return l
}

func sameParts(a, b [][]int) bool { return slices.EqualFunc(a, b, slices.Equal[[]int]) }

// unchanged checks that a call leaves a list of edges as it was.
func unchanged(t *testing.T, l []api.Edge, call func()) {
	t.Helper()
	before := slices.Clone(l)
	call()
	if !slices.Equal(before, l) {
		t.Errorf("the edges %v became %v", before, l)
	}
}

// chain has an edge from each of n vertices to the next one.
func chain(n int) []api.Edge {
	var l []api.Edge
	for v := range n - 1 {
		l = append(l, api.Edge{From: v, To: v + 1})
	}
	return l
}

// dense has an edge from each of n vertices to each greater one.
func dense(n int) []api.Edge {
	var l []api.Edge
	for v := range n {
		for w := v + 1; w < n; w++ {
			l = append(l, api.Edge{From: v, To: w})
		}
	}
	return l
}

// upTo returns the numbers from 0 to n - 1.
func upTo(n int) []int {
	l := make([]int, n)
	for i := range l {
		l[i] = i
	}
	return l
}
