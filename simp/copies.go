package simp

import "synchrony/api"

// sourcesOf returns the sources of the variables that are copies of other ones.
func sourcesOf(eqs []api.NEq) map[string]string {
	copies := definitions(eqs, api.EVar)
	l := map[string]string{}
	for name := range copies {
		if source, ok := sourceOf(name, copies); ok {
			l[name] = source
		}
	}
	return l
}

// sourceOf returns the first variable on the way from a copy that is none, and whether there is one.
func sourceOf(name string, copies map[string]api.Expr) (string, bool) {
	for range len(copies) { // a longer way meets a variable again
		name = copies[name].Name
		if _, ok := copies[name]; !ok {
			return name, true
		}
	}
	return "", false
}
