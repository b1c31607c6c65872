package equations

import (
	"maps"
	"slices"
	"testing"

	"synchrony/api"
)

// TestReads is what P20.5 (needed variables) and P21.1 (order) depend on: each place in which an equation reads a variable.
func TestReads(t *testing.T) {
	v := func(name string) api.Expr { return api.Expr{Kind: api.EVar, Name: name} }
	x := api.NEq{
		Kind: api.NCall, Left: []string{"left"}, Init: 1, Node: "node", Every: "every",
		Right: api.Expr{Kind: api.EMerge, Name: "merged", Args: []api.Expr{v("right"), {Kind: api.EWhen, Name: "when", Args: []api.Expr{v("sampled")}}, {Kind: api.EPre, Args: []api.Expr{v("delayed")}}}},
		Args:  []api.Expr{v("first"), {Kind: api.EOp, Name: "none", Args: []api.Expr{v("second"), v("right")}}},
		Clock: []api.On{{Name: "on", T: api.TBool}, {Name: "then"}},
	}
	l := Reads(x)
	slices.Sort(l)
	if want := []string{"delayed", "every", "first", "merged", "on", "right", "sampled", "second", "then", "when"}; !slices.Equal(slices.Compact(l), want) {
		t.Errorf("it reads %v, want %v", l, want)
	}
	x.Every = ""
	if l := Reads(x); slices.Contains(l, "") || slices.Contains(l, "every") {
		t.Errorf("it reads %q", l)
	}
	if l := Clock(x.Clock); !slices.Equal(l, []string{"on", "then"}) {
		t.Errorf("the clock has %v", l)
	}
	if l := Reads(api.NEq{}); len(l) > 0 {
		t.Errorf("nothing reads %q", l)
	}
}

// TestTypes is what P19.3 (constants of delays) and P23.1 (memories) depend on: the first declaration of a variable counts.
func TestTypes(t *testing.T) {
	d := func(name string, t int) api.Decl { return api.Decl{Name: name, Type: t} }
	n := api.NNode{
		In:     []api.Decl{d("a", 1), d("b", 2), d("a", 2)},
		Out:    []api.Decl{d("b", 3), d("x", 4), d("", 5)},
		Locals: []api.Decl{d("x", 1), d("y", 6), d("a", 6), d("y", 1), d("", 1)},
	}
	if l, want := Types(n), map[string]int{"a": 1, "b": 2, "x": 4, "": 5, "y": 6}; !maps.Equal(l, want) {
		t.Errorf("the types are %v, want %v", l, want)
	}
	if l := Types(api.NNode{}); len(l) > 0 {
		t.Errorf("nothing has the types %v", l)
	}
}
