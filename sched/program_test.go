package sched

import (
	"math/rand"
	"reflect"
	"slices"
	"testing"

	"synchrony/api"
	"synchrony/norm"
	"synchrony/parse"
	"synchrony/samples"
	"synchrony/sim"
	"synchrony/simp"
)

func normal(t *testing.T, s string) api.NProgram {
	t.Helper()
	p, at, e := parse.Program(s)
	if e != api.OK {
		t.Fatalf("%.60q.. is refused at %d (%.20q) with the error %d", s, at, s[at:], int(e))
	}
	n, e := norm.Program(p)
	if e != api.OK {
		t.Fatalf("%.60q: norm.Program returns the error %d", s, int(e))
	}
	return n
}

// compare checks that all nodes have the same outputs in both programs, and the same cells of variables.
func compare(t *testing.T, r *rand.Rand, n, other api.NProgram) {
	t.Helper()
	p, q := norm.Back(n), norm.Back(other)
	for _, x := range n.Nodes {
		a, e := sim.New(p, x.Name)
		b, f := sim.New(q, x.Name)
		if e != api.OK || f != api.OK {
			t.Fatalf("%s: New returns the errors %d and %d", x.Name, int(e), int(f))
		}
		for range 8 {
			row := samples.Row(r.Intn, n.Enums, x.In)
			want, _ := a.Step(row)
			if l, e := b.Step(row); e != api.OK || !slices.Equal(l, want) {
				t.Fatalf("%s: the outputs are %v, want %v, the error is %d", x.Name, l, want, int(e))
			}
			for _, d := range x.Locals {
				want, _ := a.Look(d.Name)
				if c, _ := b.Look(d.Name); c != want {
					t.Fatalf("%s: %s is %v, want %v", x.Name, d.Name, c, want)
				}
			}
		}
	}
}

// TestProgram is P21.1, P21.2 and P21.5, and G4 for scheduling.
func TestProgram(t *testing.T) {
	r := rand.New(rand.NewSource(2))
	for _, s := range samples.Texts() {
		n := normal(t, s)
		simple, e := simp.Program(n)
		if e != api.OK {
			t.Fatalf("simp.Program returns the error %d", int(e))
		}
		for round := range 60 {
			n := deepCopy(pick(r, n, simple))
			if round > 0 {
				for _, x := range n.Nodes {
					shuffle(r, x.Eqs)
				}
			}
			before := deepCopy(n)
			is, e := Program(n)
			if e != api.OK || !reflect.DeepEqual(is.Enums, before.Enums) && len(is.Enums) > 0 || len(is.Nodes) != len(n.Nodes) {
				t.Fatalf("%s: the error is %d, the result %v", s, int(e), is)
			}
			if !norm.Same(n, before) {
				t.Errorf("%s: the argument has changed", s)
			}
			expectNewMemory(t, n, is)
			if e := norm.Check(is); e != api.OK {
				t.Errorf("%s: Check of the result returns %d", s, int(e))
			}
			for i, x := range is.Nodes {
				if want, _ := Node(n.Nodes[i]); !sameNode(x, want) {
					t.Errorf("%s: the node %d is %v, want %v", s, i, x, want)
				}
				if !Right(x) || !permuted(x.Eqs, n.Nodes[i].Eqs) {
					t.Errorf("%s: the equations of the node %d are %v", s, i, x.Eqs)
				}
			}
			compare(t, r, n, is)
			if t.Failed() {
				return
			}
		}
	}
}

// TestProgramErrors is the chapter's section Errors for Program: the errors of norm.Check.
func TestProgramErrors(t *testing.T) {
	right := api.NNode{Name: "f", Out: []api.Decl{{Name: "x", Type: api.TInt}, {Name: "y", Type: api.TInt}}, Eqs: []api.NEq{def("x", v("y")), def("y", number(1))}}
	change := func(f func(n *api.NNode)) api.NProgram {
		n := deepCopy(right)
		n.Name = "g"
		f(&n)
		return api.NProgram{Nodes: []api.NNode{right, n}}
	}
	for i, c := range []struct {
		n api.NProgram
		e api.Errno
	}{
		{change(func(n *api.NNode) { n.Eqs[0].Kind = 0 }), api.ErrForm},
		{change(func(n *api.NNode) { n.Eqs[0].Right = v("z") }), api.ErrName},
		{change(func(n *api.NNode) { n.Eqs = n.Eqs[1:] }), api.ErrNone},
		{change(func(n *api.NNode) { n.Eqs[1].Right = v("x") }), api.ErrCycle},
		{change(func(n *api.NNode) { n.Eqs[1].Right = api.Expr{Kind: api.EConst, T: api.TBool} }), api.ErrType},
		{change(func(n *api.NNode) { n.Eqs[1].Clock = []api.On{on("x", 1)} }), api.ErrClock},
		{change(func(n *api.NNode) { n.Name = "f" }), api.ErrTwice},
		{change(func(n *api.NNode) { n.Eqs = make([]api.NEq, api.MaxGraph+1) }), api.ErrForm},
		{change(func(n *api.NNode) { n.Eqs = chain(api.MaxGraph + 1) }), api.ErrLimit},
	} {
		if e := norm.Check(c.n); e != c.e {
			t.Errorf("%d: Check returns %d, want %d", i, int(e), int(c.e))
		}
		if is, e := Program(c.n); e != c.e || !reflect.DeepEqual(is, api.NProgram{}) {
			t.Errorf("%d: Program returns the error %d, want %d, and %v", i, int(e), int(c.e), is)
		}
	}
	for _, n := range []api.NProgram{{}, {Enums: []api.Enum{{Name: "E", Tags: []string{"P", "Q"}}}}, change(func(n *api.NNode) {})} {
		is, e := Program(n)
		if e != api.OK || len(is.Nodes) != len(n.Nodes) || len(is.Enums) != len(n.Enums) {
			t.Errorf("Program returns the error %d and %v", int(e), is)
		}
	}
}
