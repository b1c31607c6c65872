package simp

import (
	"synchrony/api"
	"synchrony/clone"
)

// definitions returns the right sides, of one kind, of the definitions of single variables that no other equation defines.
func definitions(eqs []api.NEq, kind int) map[string]api.Expr {
	rights := map[string]api.Expr{}
	for _, x := range eqs {
		if x.Kind == api.NDef && len(x.Left) == 1 && x.Right.Kind == kind {
			rights[x.Left[0]] = x.Right
		}
	}
	defined := map[string]bool{}
	for _, x := range eqs {
		for _, name := range x.Left {
			if defined[name] {
				delete(rights, name)
			}
			defined[name] = true
		}
	}
	return rights
}

// constants has the constants of the constant variables.
type constants map[string]api.Expr

func constantsOf(eqs []api.NEq) constants {
	l := constants{}
	for name, e := range definitions(eqs, api.EConst) {
		e.Args = nil // a constant of the right form has none
		l[name] = e
	}
	return l
}

// replaceIn replaces the constant variables that an equation reads, and reports whether there were some.
func (l constants) replaceIn(x *api.NEq) bool {
	changed := l.replace(&x.Right)
	for i := range x.Args {
		changed = l.replace(&x.Args[i]) || changed
	}
	return changed
}

func (l constants) replace(e *api.Expr) bool {
	if c, ok := l[e.Name]; ok && e.Kind == api.EVar {
		*e = c
		return true
	}
	changed := false
	for i := range e.Args {
		changed = l.replace(&e.Args[i]) || changed
	}
	return changed
}

// settle folds what an equation has, and makes a definition of a delay that is always the same.
func settle(x *api.NEq) {
	x.Right, x.Args = Fold(x.Right), clone.Map(x.Args, Fold)
	if x.Kind == api.NDelay && x.Right.Kind == api.EConst && x.Right.V == x.Init {
		x.Kind, x.Init = api.NDef, 0
	}
}
