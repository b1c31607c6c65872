package value

import (
	"synchrony/api"
	"synchrony/word"
)

// Result returns the type of the result of an operator.
func Result(op int, types ...int) (int, api.Errno) {
	r := rulesOf(op)
	if e := r.arity(len(types)); e != api.OK {
		return 0, e
	}
	operand := r.operand
	if operand == 0 {
		operand = types[0]
	}
	for _, t := range types {
		if t < api.TBool || t != operand {
			return 0, api.ErrType
		}
	}
	return r.result, api.OK
}

// Apply returns the result of an operator.
func Apply(op int, args ...int) (int, api.Errno) {
	r := rulesOf(op)
	if e := r.arity(len(args)); e != api.OK {
		return 0, e
	}
	for _, v := range args {
		if r.operand != 0 && !Has(nil, r.operand, v) {
			return 0, api.ErrRange
		}
	}
	if r.operands == 1 {
		return applyToOne(op, args[0]), api.OK
	}
	return applyToTwo(op, args[0], args[1]), api.OK
}

// Lift returns the result of an operator on cells.
func Lift(op int, args ...api.Cell) api.Cell {
	values, defined := make([]int, len(args)), true
	for i, c := range args {
		switch c.Kind {
		case api.Present:
			values[i] = c.V
		case api.Undef:
			defined = false
		default:
			return api.Cell{}
		}
	}
	v, e := Apply(op, values...)
	if !defined || e != api.OK {
		return api.Cell{Kind: api.Undef}
	}
	return api.Cell{Kind: api.Present, V: v}
}

// rules tell how many operands an operator has, of which type (0: of any one, but both of the same), and the type of its result. What is no operator has the zero rules.
type rules struct {
	operands int
	operand  int
	result   int
}

func rulesOf(op int) rules {
	r := rules{operands: 2, result: api.TBool}
	switch op {
	case api.OpNot:
		r.operands = 1
		fallthrough
	case api.OpAnd, api.OpOr, api.OpXor:
		r.operand = api.TBool
	case api.OpNeg:
		r.operands = 1
		fallthrough
	case api.OpAdd, api.OpSub, api.OpMul, api.OpDiv, api.OpMod:
		r.result = api.TInt
		fallthrough
	case api.OpLt, api.OpLe, api.OpGt, api.OpGe:
		r.operand = api.TInt
	case api.OpEq, api.OpNe:
	default:
		return rules{}
	}
	return r
}

// arity returns an error unless the rules are those of an operator with n operands.
func (r rules) arity(n int) api.Errno {
	switch r.operands {
	case 0:
		return api.ErrArg
	case n:
		return api.OK
	}
	return api.ErrArity
}

func applyToOne(op, a int) int {
	if op == api.OpNot {
		return 1 - a
	}
	return word.Neg(a)
}

func applyToTwo(op, a, b int) int {
	switch op {
	case api.OpAnd:
		return a & b
	case api.OpOr:
		return a | b
	case api.OpXor:
		return a ^ b
	case api.OpAdd:
		return word.Add(a, b)
	case api.OpSub:
		return word.Sub(a, b)
	case api.OpMul:
		return word.Mul(a, b)
	case api.OpDiv:
		return word.Div(a, b)
	case api.OpMod:
		return word.Mod(a, b)
	}
	return truth(compare(op, a, b))
}

func compare(op, a, b int) bool {
	switch op {
	case api.OpEq:
		return a == b
	case api.OpNe:
		return a != b
	case api.OpLt:
		return a < b
	case api.OpLe:
		return a <= b
	case api.OpGt:
		return a > b
	}
	return a >= b
}

// truth returns the value of the type bool.
func truth(b bool) int {
	if b {
		return 1
	}
	return 0
}
