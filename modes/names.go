package modes

import (
	"synchrony/api"
	"synchrony/clone"
	"synchrony/expr"
	"synchrony/scope"
)

// nameSet is a set of names.
type nameSet map[string]bool

func (l nameSet) add(names ...string) {
	for _, name := range names {
		l[name] = true
	}
}

func (l nameSet) has(name string) bool { return l[name] }

// declared returns the names of all kinds in a program whose names are right, so that each one is declared somewhere.
func declared(p api.Program) nameSet {
	l := nameSet{}
	for _, x := range p.Enums {
		l.add(x.Name)
		l.add(x.Tags...)
	}
	for _, n := range p.Nodes {
		l.add(n.Name)
		l.add(clone.Map(scope.Vars(n), nameOf)...)
		l.addStates(n.Autos)
	}
	return l
}

// addStates adds the names of the states of the automata and of their locals.
func (l nameSet) addStates(autos []api.Auto) {
	for _, a := range autos {
		for _, s := range a.States {
			l.add(s.Name)
			l.add(clone.Map(s.Locals, nameOf)...)
			l.addStates(s.Autos)
		}
	}
}

// addRead adds the names that the body of a state reads.
func (l nameSet) addRead(s api.State) {
	for _, d := range s.Locals {
		for _, on := range d.Clock {
			l.add(on.Name)
		}
	}
	for _, x := range s.Eqs {
		l.add(expr.Names(x.Right)...)
	}
	l.addConditions(s.Until)
	for _, a := range s.Autos {
		for _, inner := range a.States {
			l.addConditions(inner.Unless)
			l.addRead(inner)
		}
	}
}

func (l nameSet) addConditions(transitions []api.Trans) {
	for _, x := range transitions {
		l.add(expr.Names(x.Cond)...)
	}
}
