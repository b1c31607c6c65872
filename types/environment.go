package types

import "synchrony/api"

// environment lists the declarations of all variables that are visible, those of the innermost state first.
type environment []api.Decl

// typeOf returns the type of the first variable with a name.
func (l environment) typeOf(name string) (int, api.Errno) {
	for i := range l {
		if l[i].Name == name {
			return l[i].Type, api.OK
		}
	}
	return 0, api.ErrName
}

// inside returns the environment of a state of an automaton that is in this one.
func (l environment) inside(s api.State) environment {
	inner := make(environment, len(s.Locals)+len(l))
	n := copy(inner, s.Locals)
	copy(inner[n:], l)
	return inner
}
