package norm

import (
	"slices"

	"synchrony/api"
)

// all reports whether each element is as asked for.
func all[A any](l []A, is func(x A) bool) bool {
	return !slices.ContainsFunc(l, func(x A) bool { return !is(x) })
}

func constant(t, v int) api.Expr { return api.Expr{Kind: api.EConst, T: t, V: v} }

func variable(name string) api.Expr { return api.Expr{Kind: api.EVar, Name: name} }

// choice returns the conditional expression.
func choice(condition, a, b api.Expr) api.Expr {
	return api.Expr{Kind: api.EIf, Args: []api.Expr{condition, a, b}}
}

// The equations of each kind, without left sides and clocks.

func definition(right api.Expr) api.NEq { return api.NEq{Kind: api.NDef, Right: right} }

func delay(init int, right api.Expr) api.NEq {
	return api.NEq{Kind: api.NDelay, Init: init, Right: right}
}

func word(text string) api.NEq { return api.NEq{Kind: api.NWord, Node: text} }
