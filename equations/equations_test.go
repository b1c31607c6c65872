package equations

import (
	"maps"
	"reflect"
	"slices"
	"testing"

	"synchrony/api"
)

// equation returns one that has a different name in each place. The names of variables that it reads end with the suffix.
func equation(suffix string) api.NEq {
	v := func(name string) api.Expr { return api.Expr{Kind: api.EVar, Name: name + suffix} }
	return api.NEq{
		Kind: api.NCall, Left: []string{"left"}, Init: 1, Node: "node", Every: "every" + suffix,
		Right: api.Expr{Kind: api.EMerge, Name: "merged" + suffix, Args: []api.Expr{v("right"), {Kind: api.EWhen, Name: "when" + suffix, Args: []api.Expr{v("sampled")}}, {Kind: api.EPre, Args: []api.Expr{v("delayed")}}}},
		Args:  []api.Expr{v("first"), {Kind: api.EOp, Name: "none", Args: []api.Expr{v("second"), v("right")}}, {Kind: api.ECall, Name: "called"}, {Kind: api.EWord, Name: "word"}},
		Clock: []api.On{{Name: "on" + suffix, T: api.TBool}, {Name: "then" + suffix}},
	}
}

// TestReads is what P20.5 (needed variables) and P21.1 (order) depend on: each place in which an equation reads a variable.
func TestReads(t *testing.T) {
	x := equation("")
	l := Reads(x)
	slices.Sort(l)
	if want := []string{"delayed", "every", "first", "merged", "on", "right", "sampled", "second", "then", "when"}; !slices.Equal(slices.Compact(l), want) {
		t.Errorf("it reads %v, want %v", l, want)
	}
	x.Every = ""
	if l := Reads(x); slices.Contains(l, "") || slices.Contains(l, "every") {
		t.Errorf("it reads %q", l)
	}
	if l := Clock(x.Clock); !slices.Equal(l, []string{"on", "then"}) {
		t.Errorf("the clock has %v", l)
	}
	if l := Reads(api.NEq{}); len(l) > 0 {
		t.Errorf("nothing reads %q", l)
	}
}

// TestTypes is what P19.3 (constants of delays) and P23.1 (memories) depend on: the first declaration of a variable counts.
func TestTypes(t *testing.T) {
	d := func(name string, t int) api.Decl { return api.Decl{Name: name, Type: t} }
	n := api.NNode{
		In:     []api.Decl{d("a", 1), d("b", 2), d("a", 2)},
		Out:    []api.Decl{d("b", 3), d("x", 4), d("", 5)},
		Locals: []api.Decl{d("x", 1), d("y", 6), d("a", 6), d("y", 1), d("", 1)},
	}
	if l, want := Types(n), map[string]int{"a": 1, "b": 2, "x": 4, "": 5, "y": 6}; !maps.Equal(l, want) {
		t.Errorf("the types are %v, want %v", l, want)
	}
	if l := Types(api.NNode{}); len(l) > 0 {
		t.Errorf("nothing has the types %v", l)
	}
}

// TestRename is what P20.3 (copies) and P25.2 (shared delays) depend on: variables are replaced in each place in which an equation reads them, and nowhere else.
func TestRename(t *testing.T) {
	x := equation("")
	names := map[string]string{"": "other"}
	for _, name := range Reads(x) {
		names[name] = name + "_1"
	}
	for _, name := range []string{"left", "node", "none", "called", "word"} {
		names[name] = "other"
	}
	Rename(&x, names)
	if want := equation("_1"); !reflect.DeepEqual(x, want) {
		t.Errorf("it becomes %v, want %v", x, want)
	}
	swapped := api.NEq{Right: api.Expr{Args: []api.Expr{{Kind: api.EVar, Name: "a"}, {Kind: api.EVar, Name: "b"}, {Kind: api.EVar, Name: "c"}}}}
	Rename(&swapped, map[string]string{"a": "b", "b": "a", "": "other"})
	if l := Reads(swapped); !slices.Equal(l, []string{"b", "a", "c"}) {
		t.Errorf("it reads %q", l)
	}
	ck := []api.On{{Name: "a", T: 4, Tag: 2}, {Name: "b"}}
	RenameClock(ck, map[string]string{"a": "c", "c": "d"})
	if want := []api.On{{Name: "c", T: 4, Tag: 2}, {Name: "b"}}; !slices.Equal(ck, want) {
		t.Errorf("the clock becomes %v", ck)
	}
}
