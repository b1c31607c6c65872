package scope

import (
	"strings"

	"synchrony/api"
)

// states appends the states of the automata, and those nested in them, to l.
func states(l []api.State, autos []api.Auto) []api.State {
	for _, a := range autos {
		for _, s := range a.States {
			l = states(append(l, s), s.Autos)
		}
	}
	return l
}

// exprs returns the expressions of a node: right sides, conditions, assumptions and guarantees.
func exprs(n api.Node) []api.Expr {
	l := rights(nil, n.Eqs)
	for _, s := range states(nil, n.Autos) {
		l = rights(l, s.Eqs)
		for _, x := range s.Unless {
			l = append(l, x.Cond)
		}
		for _, x := range s.Until {
			l = append(l, x.Cond)
		}
	}
	l = append(l, n.Assume...)
	return append(l, n.Ensure...)
}

// rights appends the right sides of the equations to l.
func rights(l []api.Expr, eqs []api.Eq) []api.Expr {
	for _, x := range eqs {
		l = append(l, x.Right)
	}
	return l
}

// visit calls do for the expressions in e. Unlike expr.Each it makes no copies of them.
func visit(e api.Expr, do func(x api.Expr)) {
	do(e)
	for _, a := range e.Args {
		visit(a, do)
	}
}

// nameSet is a set of names, of which it keeps only those with this prefix, because others are not asked for.
type nameSet struct {
	prefix string
	has    map[string]bool
}

// names returns the names of all kinds in a program.
func names(p api.Program, prefix string) nameSet {
	l := nameSet{prefix, map[string]bool{}}
	for _, x := range p.Enums {
		l.add(x.Name)
		l.add(x.Tags...)
	}
	for _, n := range p.Nodes {
		l.add(n.Name)
		l.addDecls(n.In)
		l.addDecls(n.Out)
		l.addDecls(n.Locals)
		l.addLeft(n.Eqs)
		for _, s := range states(nil, n.Autos) {
			l.add(s.Name)
			l.addDecls(s.Locals)
			l.addLeft(s.Eqs)
		}
		for _, e := range exprs(n) {
			visit(e, l.addNamed)
		}
	}
	return l
}

func (l nameSet) add(names ...string) {
	for _, s := range names {
		if strings.HasPrefix(s, l.prefix) {
			l.has[s] = true
		}
	}
}

func (l nameSet) addDecls(decls []api.Decl) {
	for _, d := range decls {
		l.add(d.Name)
		for _, x := range d.Clock {
			l.add(x.Name)
		}
	}
}

func (l nameSet) addLeft(eqs []api.Eq) {
	for _, x := range eqs {
		l.add(x.Left...)
	}
}

// addNamed adds the Name of an expression, unless its kind has none, or has the text of a word there.
func (l nameSet) addNamed(e api.Expr) {
	switch e.Kind {
	case api.EConst, api.EOp, api.EIf, api.EPre, api.EArrow, api.EFby, api.EWord:
	default:
		l.add(e.Name)
	}
}
