package norm

import (
	"testing"

	"synchrony/api"
	"synchrony/shape"
)

// TestBackEquations is P19.3: each kind of equation.
func TestBackEquations(t *testing.T) {
	a := variables("a")[0]
	constant := func(t, v int) api.Expr { return api.Expr{Kind: api.EConst, T: t, V: v} }
	merge := api.Expr{Kind: api.EMerge, Name: "c", T: api.TBool, Args: []api.Expr{a, with(api.EPre, a)}}
	call := func(v int, args ...api.Expr) api.Expr {
		return api.Expr{Kind: api.ECall, Name: "g", V: v, Args: args}
	}
	n := api.NNode{
		Name: "f",
		In:   []api.Decl{{Name: "i", Type: api.TBool}, {Name: "twice", Type: api.TEnum + 1}},
		Out:  []api.Decl{{Name: "o", Type: api.TEnum}, {Name: "twice", Type: api.TBool}, {Name: "again", Type: 77}},
		Locals: []api.Decl{{Name: "l", Type: api.TInt, Clock: onC()}, {Name: "again", Type: api.TBool}, {Name: "twice", Type: api.TBool}, {Name: "same", Type: api.TBool},
			{Name: "same", Type: api.TInt}, {Name: "", Type: api.TEnum}, {Name: "zero"}},
	}
	for _, c := range []struct {
		eq   api.NEq
		want api.Expr
	}{
		{api.NEq{Kind: api.NDef, Left: []string{"x"}, Right: merge, Init: 1, Node: "g", Args: variables("a"), Every: "c", Clock: onC()}, merge},
		{api.NEq{Kind: api.NDef}, api.Expr{}},
		{api.NEq{Kind: 0, Right: merge, Init: 3, Every: "c"}, merge},
		{api.NEq{Kind: 5, Left: []string{"x", "y"}, Right: a}, a},
		{api.NEq{Kind: -1, Right: api.Expr{Kind: 99, Op: 98, T: 97, V: 96, Name: "95", Args: variables("a")}}, api.Expr{Kind: 99, Op: 98, T: 97, V: 96, Name: "95", Args: variables("a")}},
		{api.NEq{Kind: api.NDelay, Left: []string{"i"}, Right: a, Init: 1}, with(api.EFby, constant(api.TBool, 1), a)},
		{api.NEq{Kind: api.NDelay, Left: []string{"o"}, Right: merge, Init: -7, Node: "g", Every: "c"}, with(api.EFby, constant(api.TEnum, -7), merge)},
		{api.NEq{Kind: api.NDelay, Left: []string{"l"}, Right: a, Args: variables("a")}, with(api.EFby, constant(api.TInt, 0), a)},
		{api.NEq{Kind: api.NDelay, Left: []string{"twice", "l"}, Right: a}, with(api.EFby, constant(api.TEnum+1, 0), a)},
		{api.NEq{Kind: api.NDelay, Left: []string{"again"}, Right: a}, with(api.EFby, constant(77, 0), a)},
		{api.NEq{Kind: api.NDelay, Left: []string{"same"}, Right: a}, with(api.EFby, constant(api.TBool, 0), a)},
		{api.NEq{Kind: api.NDelay, Left: []string{""}, Right: a}, with(api.EFby, constant(api.TEnum, 0), a)},
		{api.NEq{Kind: api.NDelay, Left: []string{"zero"}, Right: a}, with(api.EFby, constant(0, 0), a)},
		{api.NEq{Kind: api.NDelay, Left: []string{"none", "i"}, Right: a, Init: 9}, with(api.EFby, constant(api.TInt, 9), a)},
		{api.NEq{Kind: api.NDelay, Init: 1 << 40}, with(api.EFby, constant(api.TInt, 1<<40), api.Expr{})},
		{api.NEq{Kind: api.NCall, Left: []string{"x", "y"}, Node: "g", Args: []api.Expr{merge, a}}, call(0, merge, a)},
		{api.NEq{Kind: api.NCall, Left: []string{"x"}, Node: "g", Args: []api.Expr{a}, Every: "c", Right: merge, Init: 2}, call(1, a, variables("c")[0])},
		{api.NEq{Kind: api.NCall, Node: "g", Every: "c"}, call(1, variables("c")[0])},
		{api.NEq{Kind: api.NCall}, api.Expr{Kind: api.ECall}},
		{api.NEq{Kind: api.NWord, Left: []string{"w"}, Node: "(10)", Right: a, Args: variables("a"), Every: "c"}, api.Expr{Kind: api.EWord, Name: "(10)"}},
	} {
		n.Eqs = []api.NEq{{Kind: api.NDef, Left: []string{"first"}, Right: a}, c.eq}
		p := api.NProgram{Nodes: []api.NNode{{Name: "before"}, n}}
		before := deepCopy(p)
		q := Back(p)
		want := api.Program{Nodes: []api.Node{{Name: "before"}, {
			Name: "f", In: n.In, Out: n.Out, Locals: n.Locals,
			Eqs: []api.Eq{{Left: []string{"first"}, Right: a}, {Left: c.eq.Left, Right: c.want}},
		}}}
		if !shape.Same(q, want) {
			t.Errorf("%v becomes %v, want %v", c.eq, q.Nodes[1].Eqs[1], want.Nodes[1].Eqs[1])
		}
		p = deepCopy(p)
		expectNewMemory(t, "Back", p, Back(p))
		if !Same(p, before) {
			t.Errorf("%v: Back changed its argument", c.eq)
		}
	}
}

// TestBackProgram is P19.3: the parts of a program that are no equations.
func TestBackProgram(t *testing.T) {
	for _, n := range []api.NProgram{
		{},
		{Enums: []api.Enum{{}, {Name: "E", Tags: []string{"P", ""}}}},
		{Nodes: []api.NNode{{}, {Name: "f"}, {Name: "f", In: []api.Decl{{Clock: onC()}}, Out: []api.Decl{{Name: "x", Type: 4, Clock: onC()}}, Locals: []api.Decl{{Name: "x", Clock: append(onC(), onC()...)}}}}},
	} {
		want := api.Program{Enums: n.Enums}
		for _, x := range n.Nodes {
			want.Nodes = append(want.Nodes, api.Node{Name: x.Name, In: x.In, Out: x.Out, Locals: x.Locals})
		}
		n = deepCopy(n)
		p := Back(n)
		if !shape.Same(p, want) {
			t.Errorf("%v becomes %v", n, p)
		}
		expectNewMemory(t, "Back", n, p)
	}
}
