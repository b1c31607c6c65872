package types

import (
	"slices"

	"synchrony/api"
	"synchrony/shape"
	"synchrony/value"
)

// results returns the types of the results of e; inner tells whether e is an argument of another expression.
func (c checker) results(e api.Expr, inner bool) ([]int, api.Errno) {
	var args []int
	for _, a := range e.Args {
		types, err := c.results(a, true)
		if err != api.OK {
			return nil, err
		}
		args = append(args, types...) // it is one type, because a is an argument
	}
	if e.Kind == api.ECall {
		return c.call(e, args, inner)
	}
	t, err := c.result(e, args)
	if err != api.OK {
		return nil, err
	}
	return []int{t}, api.OK
}

// result returns the type of e, which is no call and has arguments of these types.
func (c checker) result(e api.Expr, args []int) (int, api.Errno) {
	switch e.Kind {
	case api.EConst:
		return e.T, api.OK
	case api.EVar:
		return c.env.typeOf(e.Name)
	case api.EOp:
		return value.Result(e.Op, args...)
	case api.EIf:
		if args[0] != api.TBool {
			return 0, api.ErrType
		}
		return common(args[1:])
	case api.EPre, api.EArrow, api.EFby:
		return common(args)
	case api.EWhen, api.EMerge:
		return c.sampled(e, args)
	}
	return api.TBool, api.OK // a letter of a word
}

// common returns the type that all of the types, of which there is at least one, must be.
func common(types []int) (int, api.Errno) {
	for _, t := range types {
		if t != types[0] {
			return 0, api.ErrType
		}
	}
	return types[0], api.OK
}

// sampled returns the type of a sampling or a merge with arguments of these types.
func (c checker) sampled(e api.Expr, args []int) (int, api.Errno) {
	t, err := c.env.typeOf(e.Name)
	switch {
	case err != api.OK:
		return 0, err
	case t != e.T:
		return 0, api.ErrType
	}
	return common(args)
}

// call returns the types of the results of a call with arguments of these types.
func (c checker) call(e api.Expr, args []int, inner bool) ([]int, api.Errno) {
	i, ok := shape.Find(c.before, e.Name)
	if !ok {
		return nil, api.ErrName
	}
	n := c.before.Nodes[i]
	want := typesOf(n.In)
	if e.V == 1 {
		want = append(want, api.TBool)
	}
	switch {
	case len(args) != len(want), inner && len(n.Out) != 1:
		return nil, api.ErrArity
	case !slices.Equal(args, want):
		return nil, api.ErrType
	}
	return typesOf(n.Out), api.OK
}

func typesOf(l []api.Decl) []int {
	var types []int
	for _, d := range l {
		types = append(types, d.Type)
	}
	return types
}
