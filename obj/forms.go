package obj

import (
	"slices"

	"synchrony/api"
	"synchrony/expr"
	"synchrony/value"
)

// hasForm reports whether a statement has a kind, and only fields that its kind has.
func hasForm(s api.Stmt) bool {
	form := api.Stmt{} // with what its kind permits
	switch s.Kind {
	case api.SAssign, api.SStore:
		form.Right = s.Right
	case api.SCase:
		form.T, form.Branches = s.T, s.Branches
	case api.SCall:
		form.Outs, form.Args = s.Outs, s.Args
	case api.SReset:
	default:
		return false
	}
	return s.T == form.T && expr.Same(s.Right, form.Right) &&
		len(s.Outs) == len(form.Outs) && len(s.Args) == len(form.Args) && len(s.Branches) == len(form.Branches)
}

// isObject reports whether e is an object expression.
func isObject(e api.Expr) bool {
	fields, form, n := e, api.Expr{Kind: e.Kind}, 0
	fields.Args = nil
	switch e.Kind {
	case api.EConst:
		form.T, form.V = e.T, e.V
	case api.EVar, api.EState:
		form.Name = e.Name
	case api.EOp:
		form.Op, n = e.Op, operands(e)
	case api.EIf:
		n = 3
	default:
		return false
	}
	return expr.Same(fields, form) && len(e.Args) == n && all(e.Args, isObject)
}

// all reports whether each element is as asked for.
func all[A any](l []A, is func(x A) bool) bool {
	return !slices.ContainsFunc(l, func(x A) bool { return !is(x) })
}

// operands returns the number of the operands of the operator of e, and -1 if it is none or e has another number of arguments.
func operands(e api.Expr) int {
	// All operators can be applied to zeros.
	if _, wrong := value.Apply(e.Op, make([]int, len(e.Args))...); wrong != api.OK {
		return -1
	}
	return len(e.Args)
}
