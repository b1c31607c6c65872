package equations

import (
	"slices"
	"testing"

	"synchrony/api"
)

// TestReads is what P20.5 (needed variables) and P21.1 (order) depend on: each place in which an equation reads a variable.
func TestReads(t *testing.T) {
	v := func(name string) api.Expr { return api.Expr{Kind: api.EVar, Name: name} }
	x := api.NEq{
		Kind: api.NCall, Left: []string{"left"}, Init: 1, Node: "node", Every: "every",
		Right: api.Expr{Kind: api.EMerge, Name: "merged", Args: []api.Expr{v("right"), {Kind: api.EWhen, Name: "when", Args: []api.Expr{v("sampled")}}, {Kind: api.EPre, Args: []api.Expr{v("delayed")}}}},
		Args:  []api.Expr{v("first"), {Kind: api.EOp, Name: "none", Args: []api.Expr{v("second"), v("right")}}},
		Clock: []api.On{{Name: "on", T: api.TBool}, {Name: "then"}},
	}
	l := Reads(x)
	slices.Sort(l)
	if want := []string{"delayed", "every", "first", "merged", "on", "right", "sampled", "second", "then", "when"}; !slices.Equal(slices.Compact(l), want) {
		t.Errorf("it reads %v, want %v", l, want)
	}
	x.Every = ""
	if l := Reads(x); slices.Contains(l, "") || slices.Contains(l, "every") {
		t.Errorf("it reads %q", l)
	}
	if l := Clock(x.Clock); !slices.Equal(l, []string{"on", "then"}) {
		t.Errorf("the clock has %v", l)
	}
	if l := Reads(api.NEq{}); len(l) > 0 {
		t.Errorf("nothing reads %q", l)
	}
}
