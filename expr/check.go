package expr

import (
	"synchrony/api"
	"synchrony/bword"
	"synchrony/lex"
)

// Check returns an error unless e is well-formed.
func Check(e api.Expr) api.Errno {
	if exceeds(e, api.MaxSize) || Depth(e) > api.MaxDepth {
		return api.ErrLimit
	}
	for x := range within(e, arguments) {
		if err := checkOne(x); err != api.OK {
			return err
		}
	}
	return api.OK
}

// exceeds reports whether e has more than n expressions, without a look at further ones.
func exceeds(e api.Expr, n int) bool {
	for range within(e, arguments) {
		n--
		if n < 0 {
			return true
		}
	}
	return false
}

// checkOne returns the error of e itself, apart from its arguments.
func checkOne(e api.Expr) api.Errno {
	switch {
	case len(e.Args) > api.MaxArgs:
		return api.ErrLimit
	case !formed(e) || !hasOnly(e):
		return api.ErrForm
	case hasIdent(e.Kind) && !lex.Ident(e.Name):
		return api.ErrName
	}
	return api.OK
}

// hasIdent reports whether the Name of the expressions of a kind must be an identifier.
func hasIdent(kind int) bool {
	return hasVariable(kind) || kind == api.ECall
}

// formed reports whether e has a kind, and its arguments and fields are what they must be for it, but for an identifier.
func formed(e api.Expr) bool {
	n := len(e.Args)
	switch e.Kind {
	case api.EConst:
		return n == 0 && hasValue(e.T, e.V)
	case api.EVar:
		return n == 0
	case api.EOp:
		return e.Op >= api.OpNot && e.Op <= api.OpGe && n == operands(e.Op)
	case api.EIf:
		return n == 3
	case api.EPre:
		return n == 1
	case api.EArrow, api.EFby:
		return n == 2
	case api.EWhen:
		return n == 1 && e.T != api.TInt && hasValue(e.T, e.V)
	case api.EMerge:
		return hasBranches(e.T, n)
	case api.ECall:
		return e.V == 0 || e.V == 1 && n > 0
	case api.EWord:
		_, err := bword.Parse(e.Name)
		return n == 0 && err == api.OK
	}
	return false
}

// hasOnly reports whether the fields that the kind of e does not have are zero.
func hasOnly(e api.Expr) bool {
	if e.Kind != api.EOp && e.Op != 0 {
		return false
	}
	switch e.Kind {
	case api.EConst:
		return e.Name == ""
	case api.EWhen:
		return true
	case api.EMerge:
		return e.V == 0
	case api.ECall:
		return e.T == 0
	case api.EVar, api.EWord:
		return e.T == 0 && e.V == 0
	}
	return e.T == 0 && e.V == 0 && e.Name == ""
}

func operands(op int) int {
	if op == api.OpNot || op == api.OpNeg {
		return 1
	}
	return 2
}

// hasValue reports whether v can be a value of the type t; how many tags an enumeration has is not known here.
func hasValue(t, v int) bool {
	switch t {
	case api.TBool:
		return v == 0 || v == 1
	case api.TInt:
		return v >= api.MinInt && v <= api.MaxInt
	}
	return t >= api.TEnum && v >= 0 && v < api.MaxTags
}

// hasBranches reports whether the values of the type t can be n.
func hasBranches(t, n int) bool {
	if t == api.TBool {
		return n == 2
	}
	return t >= api.TEnum && n >= 1 && n <= api.MaxTags
}
