package modes

import (
	"slices"

	"synchrony/api"
	"synchrony/clone"
)

func nameOf(d api.Decl) string { return d.Name }

// onBase returns the declaration of the variable on the base clock.
func onBase(d api.Decl) api.Decl { return api.Decl{Name: d.Name, Type: d.Type} }

// copyNode copies what n itself has. The parts of its automata are copied when they become parts of other nodes.
func copyNode(n api.Node) api.Node {
	n.In, n.Out, n.Locals = clone.Map(n.In, clone.Decl), clone.Map(n.Out, clone.Decl), clone.Map(n.Locals, clone.Decl)
	n.Eqs = clone.Map(n.Eqs, clone.Eq)
	n.Assume, n.Ensure = clone.Map(n.Assume, clone.Expr), clone.Map(n.Ensure, clone.Expr)
	return n
}

// define returns the equation of the variables with a right side, of which it makes no copy.
func define(right api.Expr, left ...string) api.Eq {
	return api.Eq{Left: slices.Clone(left), Right: right}
}

func constant(t, v int) api.Expr { return api.Expr{Kind: api.EConst, T: t, V: v} }

func variable(name string) api.Expr { return api.Expr{Kind: api.EVar, Name: name} }

// initially returns the variable, delayed, with the value 0 of its type t at the beginning.
func initially(t int, name string) api.Expr {
	return api.Expr{Kind: api.EFby, Args: []api.Expr{constant(t, 0), variable(name)}}
}

// sampled returns the variable, sampled.
func sampled(name string, on api.On) api.Expr {
	return api.Expr{Kind: api.EWhen, Name: on.Name, T: on.T, V: on.Tag, Args: []api.Expr{variable(name)}}
}

// conditional returns the value of the first transition whose condition is true, and the ending if there is none.
func conditional(l []api.Trans, condition func(i int) api.Expr, value func(x api.Trans) api.Expr, ending api.Expr) api.Expr {
	for i, x := range slices.Backward(l) {
		ending = api.Expr{Kind: api.EIf, Args: []api.Expr{condition(i), value(x), ending}}
	}
	return ending
}

// restarts returns whether a transition restarts its target.
func restarts(x api.Trans) api.Expr {
	if x.Resume {
		return constant(api.TBool, 0)
	}
	return constant(api.TBool, 1)
}
