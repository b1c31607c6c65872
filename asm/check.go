package asm

import (
	"synchrony/api"
	"synchrony/value"
)

// checkRoutine returns the first error of the routine k.
func checkRoutine(im api.Image, k int) api.Errno {
	r := im.Routines[k]
	switch {
	case !isName(r.Name):
		return api.ErrName
	case len(r.In) > api.MaxPorts || len(r.Out) > api.MaxPorts || len(r.Init) > api.MaxMemory || len(r.Code) > api.MaxCode || r.Regs > api.MaxCode:
		return api.ErrLimit
	case !validTypes(im, r.In) || !validTypes(im, r.Out):
		return api.ErrType
	case r.Regs < len(r.In)+len(r.Out):
		return api.ErrArity
	}
	for _, v := range r.Init {
		if !isNumber(v) {
			return api.ErrRange
		}
	}
	for at := range r.Code {
		if e := checkInstr(im, k, at); e != api.OK {
			return e
		}
	}
	return api.OK
}

// isName reports whether s is a name of a routine.
func isName(s string) bool {
	for _, c := range []byte(s) {
		switch {
		case c >= 'a' && c <= 'z', c >= 'A' && c <= 'Z', c >= '0' && c <= '9', c == '_':
		default:
			return false
		}
	}
	return s != "" && len(s) <= api.MaxName
}

func validTypes(im api.Image, types []int) bool {
	for _, t := range types {
		if t != api.TBool && t != api.TInt && (t < api.TEnum || t-api.TEnum >= len(im.Enums)) {
			return false
		}
	}
	return true
}

// isNumber reports whether v is a value of the machine.
func isNumber(v int) bool { return value.Has(nil, api.TInt, v) }

// checkInstr returns the first error of an instruction of the routine k.
func checkInstr(im api.Image, k, at int) api.Errno {
	r := im.Routines[k]
	i := r.Code[at]
	l := layoutOf(i.Op)
	if l.word == "" {
		return api.ErrForm
	}
	for f, v := range fieldsOf(i) {
		if !hasForm(l.fields[f], v, at, len(r.Code)) {
			return api.ErrForm
		}
	}
	for f, v := range fieldsOf(i) {
		if !inRange(im, k, l.fields[f], v, i.A) {
			return api.ErrRange
		}
	}
	return api.OK
}

// hasForm reports whether a field that is no number of anything is right; the instruction is at an index of a code of that length.
func hasForm(kind, v, at, length int) bool {
	switch kind {
	case nothing:
		return v == 0
	case unary:
		return v == api.OpNot || v == api.OpNeg
	case binary:
		return v >= api.OpAnd && v <= api.OpGe
	case target:
		return v > at && v <= length
	}
	return true
}

// inRange reports whether a field of an instruction of the routine k is in its range; a is the field A, which is in its own range.
func inRange(im api.Image, k, kind, v, a int) bool {
	r := im.Routines[k]
	count := 0 // of the values from 0 on
	switch kind {
	case number:
		return isNumber(v)
	case register:
		count = r.Regs
	case memory:
		count = len(r.Init)
	case routine:
		count = k
	case block: // also behind the last memory if the routine has none
		count = len(r.Init) - len(im.Routines[a].Init) + 1
	case inputs:
		count = r.Regs - len(im.Routines[a].In) + 1
	case outputs:
		count = r.Regs - len(im.Routines[a].Out) + 1
	default:
		return true
	}
	return v >= 0 && v < count
}
