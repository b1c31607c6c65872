package starts

import (
	"slices"

	"synchrony/api"
)

// variables has the names of the late variables of a node.
type variables map[string]bool

// lateIn returns the late variables of a node of a program whose clocks are right.
func lateIn(n api.Node) variables {
	var delayed []string
	followers := map[string][]string{} // the variables that are late if the one with the name is
	for _, x := range n.Eqs {
		name := x.Left[0] // with several names, the right side is a call, which has no sources
		sources(x.Right, func(source api.Expr) {
			if source.Kind == api.EPre {
				delayed = append(delayed, name)
			} else {
				followers[source.Name] = append(followers[source.Name], name)
			}
		})
	}
	late := variables{}
	var add func(name string)
	add = func(name string) {
		if late[name] {
			return
		}
		late[name] = true
		for _, follower := range followers[name] {
			add(follower)
		}
	}
	for _, name := range delayed {
		add(name)
	}
	return late
}

// sources calls visit with the delays and variables in e, or e itself, that make e late if they are late.
func sources(e api.Expr, visit func(source api.Expr)) {
	switch e.Kind {
	case api.EPre, api.EVar:
		visit(e)
	case api.EOp, api.EIf, api.EWhen:
		for _, a := range e.Args {
			sources(a, visit)
		}
	}
}

// expr reports whether e is late.
func (late variables) expr(e api.Expr) bool {
	found := false
	sources(e, func(source api.Expr) { found = found || source.Kind == api.EPre || late[source.Name] })
	return found
}

// node returns the error of a node, and the index of the equation that has it, or -1.
func (late variables) node(n api.Node) (int, api.Errno) {
	misusing := func(x api.Eq) bool { return late.misused(x.Right) }
	if i := slices.IndexFunc(n.Eqs, misusing); i >= 0 {
		return i, api.ErrInit
	}
	if slices.ContainsFunc(n.Out, late.declared) || slices.ContainsFunc(n.Locals, late.sampled) ||
		slices.ContainsFunc(n.Assume, late.claimed) || slices.ContainsFunc(n.Ensure, late.claimed) {
		return -1, api.ErrInit
	}
	return -1, api.OK
}

// declared reports whether the variable of a declaration is late.
func (late variables) declared(d api.Decl) bool { return late[d.Name] }

// sampled reports whether a late variable is in the clock of a declaration.
func (late variables) sampled(d api.Decl) bool {
	return slices.ContainsFunc(d.Clock, func(x api.On) bool { return late[x.Name] })
}

// claimed reports whether an assumption or a guarantee is wrong.
func (late variables) claimed(e api.Expr) bool { return late.expr(e) || late.misused(e) }

// misused reports whether there is a misuse in e.
func (late variables) misused(e api.Expr) bool {
	return late.misusedBy(e) || slices.ContainsFunc(e.Args, late.misused)
}

// misusedBy reports whether e itself misuses one of its arguments or its variable.
func (late variables) misusedBy(e api.Expr) bool {
	switch e.Kind {
	case api.EPre, api.EFby, api.ECall:
		return slices.ContainsFunc(e.Args, late.expr)
	case api.EArrow:
		return late.expr(e.Args[0])
	case api.EWhen:
		return late[e.Name]
	case api.EMerge:
		return late[e.Name] || slices.ContainsFunc(e.Args, late.expr)
	}
	return false
}
