package simp

import "synchrony/api"

// sources has the sources of the variables that are copies of other ones.
type sources map[string]string

func sourcesOf(eqs []api.NEq) sources {
	copies := definitions(eqs, api.EVar)
	l := sources{}
	for name := range copies {
		if source, ok := sourceOf(name, copies); ok {
			l[name] = source
		}
	}
	return l
}

// sourceOf returns the first variable on the way from a copy that is none, and whether there is one.
func sourceOf(name string, copies map[string]api.Expr) (string, bool) {
	for range len(copies) { // a longer way meets a variable again
		name = copies[name].Name
		if _, ok := copies[name]; !ok {
			return name, true
		}
	}
	return "", false
}

// replace replaces a variable by its source.
func (l sources) replace(name *string) {
	if source, ok := l[*name]; ok {
		*name = source
	}
}

// replaceIn replaces the variables that an equation reads.
func (l sources) replaceIn(x *api.NEq) {
	l.replaceExpr(&x.Right)
	for i := range x.Args {
		l.replaceExpr(&x.Args[i])
	}
	if x.Every != "" {
		l.replace(&x.Every)
	}
	l.replaceClock(x.Clock)
}

func (l sources) replaceExpr(e *api.Expr) {
	switch e.Kind {
	case api.EVar, api.EWhen, api.EMerge:
		l.replace(&e.Name)
	}
	for i := range e.Args {
		l.replaceExpr(&e.Args[i])
	}
}

func (l sources) replaceClock(ck []api.On) {
	for i := range ck {
		l.replace(&ck[i].Name)
	}
}
