package stream

import (
	"math"
	"math/rand"
	"slices"
	"strconv"
	"testing"

	"synchrony/api"
	"synchrony/bword"
	"synchrony/value"
)

// TestExamples has the examples of the chapter.
func TestExamples(t *testing.T) {
	word := api.Word{Head: []bool{true}, Loop: []bool{false, true}}
	expect(t, "Const", Const(3, 2), cells(3, 3))
	expect(t, "Lift", Lift(api.OpAdd, cells(1, 2), cells(3)), cells(4))
	expect(t, "If", If(cells(1, 0, undef), cells(1, 2, 3), cells(4, 5, 6)), cells(1, 5, undef))
	expect(t, "Pre", Pre(cells(5, none, 6, 7)), cells(undef, none, 5, 6))
	expect(t, "Arrow", Arrow(cells(9, 8, 7), cells(1, 2, 3)), cells(9, 2, 3))
	expect(t, "Fby", Fby(cells(9, 8, 7), cells(1, 2, 3)), cells(9, 1, 2))
	expect(t, "When", When(cells(5, 6, 7), cells(1, 0, 1), 1), cells(5, none, 7))
	expect(t, "Merge", Merge(cells(1, 0, 1), cells(none, 6, none), cells(5, none, 7)), cells(5, 6, 7))
	expect(t, "Word", Word(word, cells(0, none, 0, 0)), cells(1, none, 0, 1))
	if l := Dense(cells(5, none, 6, undef, 7)); !slices.Equal(l, []int{5, 6, 7}) {
		t.Errorf("Dense = %v", l)
	}
}

// TestConst is P16.1.
func TestConst(t *testing.T) {
	for n, want := range map[int]int{math.MinInt: 0, -1: 0, 0: 0, 1: 1, 2: 2, 4095: 4095, 4096: 4096, 4097: 4096, 1 << 40: 4096, math.MaxInt: 4096} {
		for _, v := range []int{0, 1, -1, 40000, math.MinInt, math.MaxInt} {
			s := Const(v, n)
			if len(s) != want {
				t.Errorf("Const of %d has %d cells, want %d", n, len(s), want)
			}
			for _, c := range s {
				if c != (api.Cell{Kind: api.Present, V: v}) {
					t.Fatalf("Const(%d, %d) has the cell %v", v, n, c)
				}
			}
		}
	}
	s := Const(1, 3)
	s[0].V = 2
	expect(t, "Const again", Const(1, 3), cells(1, 1, 1))
}

// TestLift is P16.2, for all operators, other numbers, and all numbers of streams from 0 to 3.
func TestLift(t *testing.T) {
	expect(t, "no streams", Lift(api.OpAdd), nil)
	expect(t, "no streams and no operator", Lift(0), nil)
	for op := -1; op <= api.OpGe+1; op++ {
		for _, a := range oddCells() {
			for _, b := range oddCells() {
				for _, l := range [][]api.Cell{{a}, {a, b}, {a, b, a}} {
					want := api.Cell{}
					if !slices.ContainsFunc(l, func(c api.Cell) bool { return !isThere(c) }) {
						want = value.Lift(op, l...)
					}
					var streams [][]api.Cell
					for _, c := range l {
						streams = append(streams, []api.Cell{c})
					}
					expect(t, "Lift of "+strconv.Itoa(op), Lift(op, streams...), []api.Cell{want})
				}
			}
		}
	}
	expect(t, "not", Lift(api.OpNot, cells(0, none, 1, undef, 2)), cells(1, none, 0, undef, undef))
	expect(t, "a sum", Lift(api.OpAdd, cells(32767, 2, 3, undef, none), cells(1, none, undef, undef, undef, 6)), cells(-32768, none, undef, undef, none))
	expect(t, "an empty stream", Lift(api.OpAdd, cells(1, 2), nil), nil)
	expect(t, "three", Lift(api.OpAdd, cells(1, none), cells(2, 2), cells(3, 3)), cells(undef, none))
	expect(t, "no operator", Lift(99, cells(1, none)), cells(undef, none))
}

// TestCells compares P16.2 to P16.5 with the chapter, for all combinations of cells at an instant.
func TestCells(t *testing.T) {
	for _, a := range oddCells() {
		for _, b := range oddCells() {
			for _, c := range oddCells() {
				x, y, z := []api.Cell{a}, []api.Cell{b}, []api.Cell{c}
				checkCall(t, "If", func() []api.Cell { return If(x, y, z) }, []api.Cell{ifCell(a, b, c)}, x, y, z)
				checkCall(t, "Merge", func() []api.Cell { return Merge(x, y, z) }, []api.Cell{mergeCell(a, b, c)}, x, y, z)
			}
			for tag := -1; tag <= 2; tag++ {
				want := api.Cell{}
				if b == (api.Cell{Kind: api.Present, V: tag}) {
					want = plainly(a)
				}
				expect(t, "When", When([]api.Cell{a}, []api.Cell{b}, tag), []api.Cell{want})
			}
		}
	}
}

// ifCell is P16.2.
func ifCell(c, a, b api.Cell) api.Cell {
	switch {
	case !isThere(c) || !isThere(a) || !isThere(b):
		return api.Cell{}
	case c.Kind == api.Present && c.V == 1:
		return plainly(a)
	case c.Kind == api.Present && c.V == 0:
		return plainly(b)
	}
	return api.Cell{Kind: api.Undef}
}

// mergeCell is P16.4.
func mergeCell(x api.Cell, l ...api.Cell) api.Cell {
	if !isThere(x) {
		return api.Cell{}
	}
	for i, c := range l {
		if x == (api.Cell{Kind: api.Present, V: i}) && isThere(c) {
			return plainly(c)
		}
	}
	return api.Cell{Kind: api.Undef}
}

// TestStreams compares all operations with references, for streams of different lengths.
func TestStreams(t *testing.T) {
	r := rand.New(rand.NewSource(16))
	for range 20000 {
		a, b, c := someStream(r, 6), someStream(r, 6), someStream(r, 6)
		checkCall(t, "Pre", func() []api.Cell { return Pre(a) }, preReference(a), a)
		checkCall(t, "Arrow", func() []api.Cell { return Arrow(a, b) }, arrowReference(a, b), a, b)
		checkCall(t, "Fby", func() []api.Cell { return Fby(a, b) }, fbyReference(a, b), a, b)
		_, two := jointAt(a, b)
		_, three := jointAt(a, b, c)
		var sum, chosen, when, merged, single []api.Cell
		tag := r.Intn(4) - 1
		for i := range two {
			if isThere(a[i]) && isThere(b[i]) {
				sum = append(sum, value.Lift(api.OpSub, a[i], b[i]))
			} else {
				sum = append(sum, api.Cell{})
			}
			when = append(when, api.Cell{})
			if b[i].Kind == api.Present && b[i].V == tag {
				when[i] = plainly(a[i])
			}
			single = append(single, mergeCell(a[i], b[i]))
		}
		for i := range three {
			chosen = append(chosen, ifCell(a[i], b[i], c[i]))
			merged = append(merged, mergeCell(a[i], b[i], c[i]))
		}
		checkCall(t, "Lift", func() []api.Cell { return Lift(api.OpSub, a, b) }, sum, a, b)
		checkCall(t, "When", func() []api.Cell { return When(a, b, tag) }, when, a, b)
		checkCall(t, "If", func() []api.Cell { return If(a, b, c) }, chosen, a, b, c)
		checkCall(t, "Merge", func() []api.Cell { return Merge(a, b, c) }, merged, a, b, c)
		checkCall(t, "Merge of one", func() []api.Cell { return Merge(a, b) }, single, a, b)
		if t.Failed() {
			t.Fatalf("a = %v, b = %v, c = %v, tag %d", a, b, c, tag)
		}
	}
}

// preReference is P16.3.
func preReference(a []api.Cell) []api.Cell {
	at, n := jointAt(a)
	s := make([]api.Cell, n)
	for k, i := range at {
		s[i] = api.Cell{Kind: api.Undef}
		if k > 0 {
			s[i] = plainly(a[at[k-1]])
		}
	}
	return s
}

// arrowReference is P16.3.
func arrowReference(a, b []api.Cell) []api.Cell {
	at, n := jointAt(a, b)
	s := make([]api.Cell, n)
	for k, i := range at {
		s[i] = plainly(b[i])
		if k == 0 {
			s[i] = plainly(a[i])
		}
	}
	return s
}

// fbyReference is P16.3.
func fbyReference(a, b []api.Cell) []api.Cell {
	at, n := jointAt(a, b)
	s := make([]api.Cell, n)
	for k, i := range at {
		if k == 0 {
			s[i] = plainly(a[i])
		} else {
			s[i] = plainly(b[at[k-1]])
		}
	}
	return s
}

// TestDelays has cells of all kinds before, at and after the first instant at which a stream is there.
func TestDelays(t *testing.T) {
	a, b := cells(none, 1, undef, none, 3, 4), cells(5, none, 6, 7, undef, 8, 9)
	expect(t, "Pre", Pre(a), cells(none, undef, 1, none, undef, 3))
	expect(t, "Pre of Pre", Pre(Pre(b)), cells(undef, none, undef, 5, 6, 7, undef))
	expect(t, "Arrow", Arrow(a, b), cells(none, none, undef, none, undef, 8))
	expect(t, "Fby", Fby(a, b), cells(none, none, undef, none, 6, undef))
	expect(t, "Fby, the other way round", Fby(b, a), cells(none, none, 6, none, undef, 3))
	for _, s := range [][]api.Cell{nil, {}, cells(none), cells(none, none)} {
		n := len(s)
		expect(t, "Pre of absent cells", Pre(s), make([]api.Cell, n))
		expect(t, "Arrow of absent cells", Arrow(s, b), make([]api.Cell, n))
		expect(t, "Fby of absent cells", Fby(b, s), make([]api.Cell, n))
		expect(t, "Word on absent cells", Word(api.Word{Loop: []bool{true}}, s), make([]api.Cell, n))
		if l := Dense(s); len(l) > 0 {
			t.Errorf("Dense of absent cells = %v", l)
		}
	}
}

// TestMerge is P16.4 for numbers of streams other than two.
func TestMerge(t *testing.T) {
	x := cells(0, 1, 2, 3, -1, undef, none)
	expect(t, "no streams", Merge(x), cells(undef, undef, undef, undef, undef, undef, none))
	expect(t, "one", Merge(x, cells(4, 4, 4, 4, 4, 4, 4)), cells(4, undef, undef, undef, undef, undef, none))
	expect(t, "three", Merge(x, cells(4, 4, 4, 4, 4, 4, 4), cells(5, undef, 5, 5, 5, 5, 5), cells(6, 6, none, 6, 6, 6, 6)), cells(4, undef, undef, undef, undef, undef, none))
	expect(t, "a shorter one", Merge(x, cells(4, 4, 4), cells(5, 5)), cells(4, 5))
	expect(t, "an empty one", Merge(x, cells(4, 4, 4), nil), nil)
	expect(t, "an empty clock variable", Merge(nil, cells(4)), nil)
}

// TestWord is P16.5.
func TestWord(t *testing.T) {
	r := rand.New(rand.NewSource(17))
	for range 2000 {
		var w api.Word
		for range r.Intn(4) {
			w.Head = append(w.Head, r.Intn(2) == 0)
		}
		for range 1 + r.Intn(4) {
			w.Loop = append(w.Loop, r.Intn(2) == 0)
		}
		clock := someStream(r, 20)
		at, n := jointAt(clock)
		want := make([]api.Cell, n)
		for k, i := range at {
			want[i] = api.Cell{Kind: api.Present}
			if bword.At(w, k) {
				want[i].V = 1
			}
		}
		checkCall(t, "Word", func() []api.Cell { return Word(w, clock) }, want, clock)
		clear(want)
		for _, i := range at {
			want[i] = api.Cell{Kind: api.Undef}
		}
		for _, wrong := range []api.Word{{}, {Head: w.Head}, {Head: make([]bool, api.MaxWord), Loop: w.Loop}, {Loop: make([]bool, api.MaxWord+1)}} {
			expect(t, "a word that is not valid", Word(wrong, clock), want)
		}
	}
	long := api.Word{Head: make([]bool, api.MaxWord-1), Loop: []bool{true}}
	s := Word(long, Const(0, api.MaxWord+1))
	if s[api.MaxWord-2].V != 0 || s[api.MaxWord-1].V != 1 || s[api.MaxWord].V != 1 {
		t.Errorf("the longest word is %v", s)
	}
}

// TestDense is P16.5.
func TestDense(t *testing.T) {
	var s []api.Cell
	for _, c := range oddCells() {
		s = append(s, c, c)
	}
	if l := Dense(s); !slices.Equal(l, []int{0, 0, 1, 1, 2, 2, -1, -1, 40000, 40000}) {
		t.Errorf("Dense = %v", l)
	}
}

// TestLaws is P16.6.
func TestLaws(t *testing.T) {
	r := rand.New(rand.NewSource(18))
	for range 5000 {
		a := someStream(r, 8)
		p := Pre(a)
		for i, c := range a {
			if isThere(p[i]) != isThere(c) {
				t.Fatalf("Pre of %v is %v", a, p)
			}
		}
		b, x := slices.Clone(a), slices.Clone(a) // streams that are there at the same instants
		for i, c := range a {
			if isThere(c) {
				b[i] = oddCells()[5+r.Intn(7)]
				x[i] = oddCells()[5+r.Intn(7)]
			}
		}
		expect(t, "Fby", Fby(a, b), Arrow(a, Pre(b)))
		merged := Merge(x, When(a, x, 0), When(a, x, 1), When(a, x, 2))
		for i, c := range x {
			if c.Kind == api.Present && c.V >= 0 && c.V <= 2 && merged[i] != plainly(a[i]) {
				t.Fatalf("of %v, sampled by %v, the merge is %v", a, x, merged)
			}
			if isThere(merged[i]) != isThere(c) {
				t.Fatalf("by %v, the merge is %v", x, merged)
			}
		}
	}
}
