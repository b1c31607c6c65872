package norm

import (
	"slices"

	"synchrony/api"
	"synchrony/clone"
	"synchrony/expr"
)

// atomic reports whether e is an atom.
func atomic(e api.Expr) bool { return e.Kind == api.EVar || e.Kind == api.EConst }

// hasForm reports whether an equation has the form of its kind.
func hasForm(x api.NEq) bool {
	form := api.NEq{Kind: x.Kind, Left: x.Left, Clock: x.Clock} // with what its kind permits
	one, ok := len(x.Left) == 1, false
	switch x.Kind {
	case api.NDef:
		form.Right = x.Right
		ok = one && Control(x.Right)
	case api.NDelay:
		form.Right, form.Init = x.Right, x.Init
		ok = one && atomic(x.Right)
	case api.NCall:
		form.Node, form.Args, form.Every = x.Node, x.Args, x.Every
		ok = len(x.Left) > 0 && all(x.Args, Simple)
	case api.NWord:
		form.Node = x.Node
		ok = one
	}
	return ok && sameEq(x, form)
}

// onClock returns the check whether an equation of a node, whose names are right, is on the declared clock of the first variable on the left.
func onClock(n api.NNode) func(x api.NEq) bool {
	clocks := map[string][]api.On{} // inputs and outputs have none
	for _, d := range n.Locals {
		clocks[d.Name] = d.Clock
	}
	return func(x api.NEq) bool { return slices.Equal(x.Clock, clocks[x.Left[0]]) }
}

// frame returns a program without its equations, in the same memory.
func frame(n api.NProgram) api.Program {
	node := func(x api.NNode) api.Node {
		return api.Node{Name: x.Name, In: x.In, Out: x.Out, Locals: x.Locals}
	}
	return api.Program{Enums: n.Enums, Nodes: clone.Map(n.Nodes, node)}
}

func sameEqs(a, b api.NNode) bool { return slices.EqualFunc(a.Eqs, b.Eqs, sameEq) }

func sameEq(a, b api.NEq) bool {
	return a.Kind == b.Kind && a.Init == b.Init && a.Node == b.Node && a.Every == b.Every &&
		slices.Equal(a.Left, b.Left) &&
		expr.Same(a.Right, b.Right) &&
		slices.EqualFunc(a.Args, b.Args, expr.Same) &&
		slices.Equal(a.Clock, b.Clock)
}
