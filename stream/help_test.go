package stream

import (
	"math/rand"
	"reflect"
	"slices"
	"testing"

	"synchrony/api"
)

// undef stands for an undefined cell in the lists of cells, and none for an absent one.
const (
	undef = 1001
	none  = 1002
)

// cells returns a stream: present cells with these values, but for undef and none.
func cells(l ...int) []api.Cell {
	var s []api.Cell
	for _, v := range l {
		switch v {
		case undef:
			s = append(s, api.Cell{Kind: api.Undef})
		case none:
			s = append(s, api.Cell{})
		default:
			s = append(s, api.Cell{Kind: api.Present, V: v})
		}
	}
	return s
}

func expect(t *testing.T, what string, s, want []api.Cell) {
	t.Helper()
	if !slices.Equal(s, want) {
		t.Errorf("%s = %v, want %v", what, s, want)
	}
}

// oddCells has cells of all kinds, those that are none included, with values that only present ones have in results.
func oddCells() []api.Cell {
	return []api.Cell{
		{}, {Kind: api.Absent, V: 1}, {Kind: -1}, {Kind: 3, V: 1}, {Kind: 1 << 62, V: 2}, {Kind: api.Undef}, {Kind: api.Undef, V: 1},
		{Kind: api.Present}, {Kind: api.Present, V: 1}, {Kind: api.Present, V: 2}, {Kind: api.Present, V: -1}, {Kind: api.Present, V: 40000},
	}
}

// someStream returns a stream of at most n cells, most of which are there.
func someStream(r *rand.Rand, n int) []api.Cell {
	var s []api.Cell
	for range r.Intn(n + 1) {
		c := oddCells()[r.Intn(12)]
		if r.Intn(2) == 0 {
			c = api.Cell{Kind: api.Present, V: r.Intn(3)}
		}
		s = append(s, c)
	}
	return s
}

// isThere and plainly tell what a cell of an argument counts as, by the section Terms.
func isThere(c api.Cell) bool { return c.Kind == 1 || c.Kind == 2 }

func plainly(c api.Cell) api.Cell {
	if c.Kind == 1 {
		return c
	}
	if c.Kind == 2 {
		return api.Cell{Kind: 2}
	}
	return api.Cell{}
}

// jointAt returns the instants at which all of the streams are there, and the length that they have together.
func jointAt(l ...[]api.Cell) ([]int, int) {
	n := len(slices.MinFunc(l, func(a, b []api.Cell) int { return len(a) - len(b) }))
	var at []int
	for i := range n {
		if !slices.ContainsFunc(l, func(s []api.Cell) bool { return !isThere(s[i]) }) {
			at = append(at, i)
		}
	}
	return at, n
}

// checkCall calls f, which calls a function with the streams, and checks that they stay as they are and that the result is new memory.
func checkCall(t *testing.T, what string, f func() []api.Cell, want []api.Cell, l ...[]api.Cell) {
	t.Helper()
	var before [][]api.Cell
	for _, s := range l {
		before = append(before, slices.Clone(s))
	}
	result := f()
	expect(t, what, result, want)
	result = result[:cap(result)]
	for i := range result {
		result[i] = api.Cell{Kind: 7, V: 7}
	}
	if !reflect.DeepEqual(l, before) {
		t.Errorf("%s: the arguments %v became %v", what, before, l)
	}
	expect(t, what+" again", f(), want)
}
