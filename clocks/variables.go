package clocks

import (
	"slices"

	"synchrony/api"
	"synchrony/scope"
)

// variables has the declarations of the variables of a node. The clocks in them are the declared clocks.
type variables map[string]api.Decl

// variablesOf returns the variables of a node; of several with the same name, it is the first one.
func variablesOf(n api.Node) variables {
	v := variables{}
	for i, d := range scope.Vars(n) {
		if i < len(n.In)+len(n.Out) {
			d.Clock = nil // inputs and outputs are on the base clock, whatever is declared
		}
		if v.lack(d.Name) {
			v[d.Name] = d
		}
	}
	return v
}

func (v variables) lack(name string) bool {
	_, ok := v[name]
	return !ok
}

// node returns the error of a node, and the index of the equation that has it, or -1.
func (v variables) node(n api.Node) (int, api.Errno) {
	for _, d := range n.Locals {
		if e := v.declared(d.Clock); e != api.OK {
			return -1, e
		}
	}
	for i, x := range n.Eqs {
		if e := v.equation(x); e != api.OK {
			return i, e
		}
	}
	for _, x := range slices.Concat(n.Assume, n.Ensure) {
		if e := v.fit(x, nil); e != api.OK {
			return -1, e
		}
	}
	return -1, api.OK
}

// declared returns the error of the clock of a declaration.
func (v variables) declared(ck []api.On) api.Errno {
	for i, x := range ck {
		if d := v[x.Name]; d.Type != x.T || !Same(d.Clock, ck[:i]) {
			return api.ErrClock
		}
	}
	return api.OK
}

func (v variables) equation(x api.Eq) api.Errno {
	ck := v[x.Left[0]].Clock
	for _, name := range x.Left {
		if !Same(v[name].Clock, ck) {
			return api.ErrClock
		}
	}
	return v.fit(x.Right, ck)
}

// fit returns the first error, in preorder, in e as an expression on the clock ck.
func (v variables) fit(e api.Expr, ck []api.On) api.Errno {
	if err := v.fitsItself(e, ck); err != api.OK {
		return err
	}
	for i, a := range e.Args {
		if err := v.fit(a, ofArgument(e, i, ck)); err != api.OK {
			return err
		}
	}
	return api.OK
}

// fitsItself returns the error of e itself, apart from its arguments, on the clock ck.
func (v variables) fitsItself(e api.Expr, ck []api.On) api.Errno {
	own := v[e.Name].Clock
	switch e.Kind {
	case api.EVar, api.EMerge:
		if !Same(own, ck) {
			return api.ErrClock
		}
	case api.EWhen:
		if n := len(ck) - 1; n < 0 || ck[n] != sampling(e, e.V) || !Same(own, ck[:n]) {
			return api.ErrClock
		}
	}
	if e.Kind == api.EMerge && len(ck) == api.MaxClock {
		return api.ErrLimit
	}
	return api.OK
}

// ofArgument returns the clock of the argument i of e, which fits the clock ck itself.
func ofArgument(e api.Expr, i int, ck []api.On) []api.On {
	switch e.Kind {
	case api.EWhen:
		return ck[:len(ck)-1]
	case api.EMerge:
		return append(slices.Clone(ck), sampling(e, i))
	}
	return ck
}

// sampling returns the sampling by the variable and the type of e.
func sampling(e api.Expr, tag int) api.On { return api.On{Name: e.Name, T: e.T, Tag: tag} }
