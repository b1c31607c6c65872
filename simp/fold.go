package simp

import (
	"synchrony/api"
	"synchrony/value"
)

// neutral lists the constants with which an operator returns its other operand. Those that are not on either side are the second operand.
var neutral = [...]struct {
	op, t, v int
	either   bool
}{
	{api.OpAnd, api.TBool, 1, true},
	{api.OpOr, api.TBool, 0, true},
	{api.OpXor, api.TBool, 0, true},
	{api.OpAdd, api.TInt, 0, true},
	{api.OpMul, api.TInt, 1, true},
	{api.OpSub, api.TInt, 0, false},
	{api.OpDiv, api.TInt, 1, false},
	{api.OpEq, api.TBool, 1, true},
	{api.OpNe, api.TBool, 0, true},
}

// folded returns what the first rule that applies to e itself yields, and whether there is one. The arguments of e are folded.
func folded(e api.Expr) (api.Expr, bool) {
	switch n := len(e.Args); {
	case e.Kind == api.EOp:
		return foldedOperation(e)
	case e.Kind == api.EIf && n == 3:
		return foldedChoice(e.Args[0], e.Args[1], e.Args[2])
	case e.Kind == api.EWhen && n == 1 && e.Args[0].Kind == api.EConst:
		return e.Args[0], true
	}
	return api.Expr{}, false
}

func foldedOperation(e api.Expr) (api.Expr, bool) {
	if r, ok := computed(e); ok {
		return r, true
	}
	switch len(e.Args) {
	case 1:
		return undone(e.Op, e.Args[0])
	case 2:
		return left(e.Op, e.Args[0], e.Args[1])
	}
	return api.Expr{}, false
}

// computed returns the result of an operator whose operands are constants.
func computed(e api.Expr) (api.Expr, bool) {
	var types, values []int
	for _, a := range e.Args {
		if a.Kind != api.EConst {
			return api.Expr{}, false
		}
		types, values = append(types, a.T), append(values, a.V)
	}
	t, wrong := value.Result(e.Op, types...)
	if wrong != api.OK {
		return api.Expr{}, false
	}
	v, wrong := value.Apply(e.Op, values...)
	return constant(t, v), wrong == api.OK
}

// undone returns the operand of the operator in a, if that and the operator before it cancel each other.
func undone(op int, a api.Expr) (api.Expr, bool) {
	inverse := (op == api.OpNot || op == api.OpNeg) && a.Kind == api.EOp && a.Op == op && len(a.Args) == 1
	if !inverse {
		return api.Expr{}, false
	}
	return a.Args[0], true
}

// left returns what is left of an operation one of whose operands is neutral.
func left(op int, a, b api.Expr) (api.Expr, bool) {
	for _, x := range neutral {
		switch {
		case x.op != op:
		case isConstant(b, x.t, x.v):
			return a, true
		case x.either && isConstant(a, x.t, x.v):
			return b, true
		}
	}
	return api.Expr{}, false
}

func foldedChoice(condition, a, b api.Expr) (api.Expr, bool) {
	isTrue := func(e api.Expr) bool { return isConstant(e, api.TBool, 1) }
	isFalse := func(e api.Expr) bool { return isConstant(e, api.TBool, 0) }
	switch {
	case isTrue(condition):
		return a, true
	case isFalse(condition):
		return b, true
	case isTrue(a) && isFalse(b):
		return condition, true
	case isFalse(a) && isTrue(b):
		return api.Expr{Kind: api.EOp, Op: api.OpNot, Args: []api.Expr{condition}}, true
	}
	return api.Expr{}, false
}

func constant(t, v int) api.Expr { return api.Expr{Kind: api.EConst, T: t, V: v} }

func isConstant(e api.Expr, t, v int) bool { return e.Kind == api.EConst && e.T == t && e.V == v }
