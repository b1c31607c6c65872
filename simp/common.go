package simp

import (
	"slices"

	"synchrony/api"
	"synchrony/expr"
)

// shareable reports whether an equation can become a copy of another variable.
func shareable(x api.NEq) bool {
	if len(x.Left) != 1 {
		return false
	}
	return x.Kind == api.NWord || x.Kind == api.NDef && x.Right.Kind != api.EVar && x.Right.Kind != api.EConst
}

// computesSame reports whether y defines one variable, by what x has.
func computesSame(x, y api.NEq) bool {
	return y.Kind == x.Kind && y.Node == x.Node && len(y.Left) == 1 &&
		slices.Equal(y.Clock, x.Clock) && expr.Same(y.Right, x.Right)
}

// copyOf returns x as a copy of the variable with the name.
func copyOf(x api.NEq, name string) api.NEq {
	return api.NEq{Kind: api.NDef, Left: x.Left, Clock: x.Clock, Right: api.Expr{Kind: api.EVar, Name: name}}
}
