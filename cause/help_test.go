package cause

import (
	"slices"
	"testing"

	"synchrony/api"
	"synchrony/parse"
	"synchrony/shape"
)

// read returns the program with this text.
func read(t *testing.T, s string) api.Program {
	t.Helper()
	p, at, e := parse.Program(s)
	if e != api.OK {
		t.Fatalf("%.40q.. is refused at %d (%.20q) with the error %d", s, at, s[at:], int(e))
	}
	return p
}

// edges returns the edges that are listed as pairs.
func edges(ends ...int) []api.Edge {
	var l []api.Edge
	for i := 0; i < len(ends); i += 2 {
		l = append(l, api.Edge{From: ends[i], To: ends[i+1]})
	}
	return l
}

func expectCheck(t *testing.T, what string, p api.Program, where api.Where, want api.Errno) {
	t.Helper()
	if w, e := Check(p); w != where || e != want {
		t.Errorf("%s: Check = %v, %d, want %v, %d", what, w, int(e), where, int(want))
	}
}

func expectEdges(t *testing.T, what string, p api.Program, node int, l []api.Edge, want api.Errno) {
	t.Helper()
	if is, e := Edges(p, node); !slices.Equal(is, l) || e != want {
		t.Errorf("%s: Edges = %v, %d, want %v, %d", what, is, int(e), l, int(want))
	}
}

func expectOrder(t *testing.T, what string, p api.Program, node int, l []int, want api.Errno) {
	t.Helper()
	if is, e := Order(p, node); !slices.Equal(is, l) || e != want {
		t.Errorf("%s: Order = %v, %d, want %v, %d", what, is, int(e), l, int(want))
	}
}

// expectAll checks all three functions for a program of one node. The least equation in a cycle is -1 if there is no cycle.
func expectAll(t *testing.T, s string, l []api.Edge, order []int, cyclic int) {
	t.Helper()
	p := read(t, s)
	expectEdges(t, s, p, 0, l, api.OK)
	if cyclic < 0 {
		expectOrder(t, s, p, 0, order, api.OK)
		expectCheck(t, s, p, api.Where{}, api.OK)
	} else {
		expectOrder(t, s, p, 0, nil, api.ErrCycle)
		expectCheck(t, s, p, api.Where{Eq: cyclic}, api.ErrCycle)
	}
	if !shape.Same(p, read(t, s)) {
		t.Errorf("%s: the program became another one", s)
	}
}
