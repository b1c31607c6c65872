package norm

import (
	"reflect"
	"testing"

	"synchrony/api"
)

// TestKinds is P19.4 for Simple and Control.
func TestKinds(t *testing.T) {
	a, c := variables("a")[0], number(1)
	when := with(api.EWhen, a)
	merge := with(api.EMerge, c, c)
	simple := []api.Expr{
		a, c, {Kind: api.EVar}, {Kind: api.EConst}, with(api.EConst, with(api.EPre, a)), with(api.EVar, merge),
		with(api.EOp), with(api.EOp, a), with(api.EOp, a, c, a, c), with(api.EIf), with(api.EIf, a, c), with(api.EIf, a, c, when),
		when, with(api.EWhen, c), with(api.EOp, with(api.EIf, a, with(api.EOp, when, c), a)),
	}
	neither := []api.Expr{
		{}, {Kind: -1}, {Kind: api.EState}, {Kind: api.EState + 1}, with(api.EPre, a), with(api.EArrow, a, a), with(api.EFby, c, a), {Kind: api.ECall}, {Kind: api.EWord},
		with(api.EWhen), with(api.EWhen, a, a), with(api.EWhen, when), with(api.EWhen, with(api.EOp, a)), with(api.EWhen, merge), with(api.EWhen, with(api.EWord)),
		with(api.EOp, merge), with(api.EOp, a, with(api.EPre, a)), with(api.EIf, a, a, merge), with(api.EIf, with(api.EWord), a, a), with(api.EOp, api.Expr{}),
	}
	control := []api.Expr{merge, with(api.EMerge), with(api.EMerge, a, merge, when), with(api.EMerge, with(api.EMerge, with(api.EMerge, with(api.EIf, a, a, a))))}
	for _, e := range simple {
		if !Simple(e) || !Control(e) {
			t.Errorf("%v: Simple returns %v, Control %v", e, Simple(e), Control(e))
		}
		control = append(control, with(api.EMerge, a, e))
	}
	for _, e := range control {
		if Simple(e) || !Control(e) {
			t.Errorf("%v: Simple returns %v, Control %v", e, Simple(e), Control(e))
		}
	}
	for _, e := range neither {
		for _, e := range []api.Expr{e, with(api.EMerge, a, e), with(api.EMerge, with(api.EMerge, e, a)), with(api.EOp, e)} {
			if Simple(e) || Control(e) {
				t.Errorf("%v: Simple returns %v, Control %v", e, Simple(e), Control(e))
			}
		}
	}
}

// TestFind is P19.4 for Find.
func TestFind(t *testing.T) {
	n := api.NProgram{Nodes: []api.NNode{{Name: "f"}, {Name: "g"}, {Name: ""}, {Name: "g"}}}
	for _, c := range []struct {
		name string
		i    int
		ok   bool
	}{{"f", 0, true}, {"g", 1, true}, {"", 2, true}, {"h", 0, false}, {"F", 0, false}} {
		if i, ok := Find(n, c.name); i != c.i || ok != c.ok {
			t.Errorf("Find of %q returns %d, %v", c.name, i, ok)
		}
	}
	if i, ok := Find(api.NProgram{}, ""); i != 0 || ok {
		t.Errorf("Find without nodes returns %d, %v", i, ok)
	}
}

// TestSame is P19.4 for Same: a change of any part makes another program.
func TestSame(t *testing.T) {
	eq := api.NEq{Kind: 2, Left: []string{"x", "y"}, Right: with(api.EOp, number(3), variables("a")[0]), Init: 4, Node: "g", Args: variables("a", "b"), Every: "c", Clock: onC()}
	decl := func(name string) []api.Decl {
		return []api.Decl{{Name: name, Type: 2, Clock: onC()}, {Name: name}}
	}
	n := api.NProgram{
		Enums: []api.Enum{{Name: "E", Tags: []string{"P", "Q"}}},
		Nodes: []api.NNode{{Name: "f", In: decl("i"), Out: decl("o"), Locals: decl("l"), Eqs: []api.NEq{eq, {}}}, {Name: "g"}},
	}
	if !Same(n, n) || !Same(n, deepCopy(n)) || !Same(api.NProgram{}, api.NProgram{Enums: []api.Enum{}, Nodes: []api.NNode{}}) {
		t.Error("equal programs are not the same")
	}
	empty := deepCopy(n)
	empty.Enums[0].Tags, empty.Nodes[1].Eqs, empty.Nodes[0].Eqs[1].Args = []string{}, []api.NEq{}, []api.Expr{}
	nilled := deepCopy(empty)
	nilled.Enums[0].Tags, nilled.Nodes[1].Eqs, nilled.Nodes[0].Eqs[1].Args = nil, nil, nil
	if !Same(empty, nilled) {
		t.Error("nil and empty lists are not the same")
	}
	changed := deepCopy(n)
	changes := 0
	spoil(reflect.ValueOf(&changed).Elem(), func() {
		changes++
		if Same(n, changed) || Same(changed, n) {
			t.Errorf("%v and %v are the same", n, changed)
		}
	})
	if changes < 100 || !Same(n, changed) {
		t.Errorf("only %d changes", changes)
	}
}
