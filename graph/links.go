package graph

import (
	"math/bits"

	"synchrony/api"
)

const wordSize = 64

// set is a set of vertices, with a bit for each one.
type set []uint64

func newSet(n int) set { return make(set, (n+wordSize-1)/wordSize) }

func (s set) add(v int) { s[v/wordSize] |= 1 << (v % wordSize) }

func (s set) remove(v int) { s[v/wordSize] &^= 1 << (v % wordSize) }

func (s set) has(v int) bool { return s[v/wordSize]>>(v%wordSize)&1 == 1 }

// least returns the least member, if there is one.
func (s set) least() (int, bool) {
	for i, word := range s {
		if word != 0 {
			return i*wordSize + bits.TrailingZeros64(word), true
		}
	}
	return 0, false
}

// links has for each vertex the set of its neighbours, so that repeated edges and their order leave no trace.
type links []set

func forward(n int, edges []api.Edge) links {
	l := unlinked(n)
	for _, e := range edges {
		l[e.From].add(e.To)
	}
	return l
}

func backward(n int, edges []api.Edge) links {
	l := unlinked(n)
	for _, e := range edges {
		l[e.To].add(e.From)
	}
	return l
}

func unlinked(n int) links {
	l := make(links, n)
	for v := range l {
		l[v] = newSet(n)
	}
	return l
}

// each visits the neighbours of v, in ascending order.
func (l links) each(v int, visit func(w int)) {
	l.eachNew(v, newSet(len(l)), visit)
}

// eachNew visits the neighbours of v that had not been seen before, in ascending order. It skips the others word by word, which makes searches of large graphs fast.
func (l links) eachNew(v int, seen set, visit func(w int)) {
	for i, word := range l[v] {
		for word &^= seen[i]; word != 0; word &= word - 1 {
			visit(i*wordSize + bits.TrailingZeros64(word))
		}
	}
}

// walk goes from v to all vertices to which paths lead that had not been seen before, and leaves each one after those to which it has gone on from it.
func (l links) walk(v int, seen set, leave func(w int)) {
	if seen.has(v) {
		return
	}
	seen.add(v)
	l.eachNew(v, seen, func(w int) { l.walk(w, seen, leave) })
	leave(v)
}

// distances returns the numbers of edges of the shortest paths from a vertex to all vertices by vertices that are not less than it, and -1 where there is none of at most far edges.
func (l links) distances(from, far int) []int {
	distances := make([]int, len(l))
	for v := range distances {
		distances[v] = -1
	}
	distances[from] = 0
	seen, level := newSet(len(l)), []int{from}
	for v := range from + 1 {
		seen.add(v)
	}
	for d := 1; d <= far && len(level) > 0; d++ {
		var further []int
		for _, v := range level {
			l.eachNew(v, seen, func(w int) {
				seen.add(w)
				distances[w] = d
				further = append(further, w)
			})
		}
		level = further
	}
	return distances
}
