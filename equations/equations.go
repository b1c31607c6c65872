// Package equations tells about normalized equations, and about the nodes that have them, what several layers ask, and replaces the variables that equations read.
package equations

import (
	"slices"

	"synchrony/api"
	"synchrony/clone"
	"synchrony/expr"
)

// Reads returns the variables that an equation reads. A variable that is read in several places can be in the list several times.
func Reads(x api.NEq) []string {
	l := expr.Names(x.Right)
	for _, a := range x.Args {
		l = append(l, expr.Names(a)...)
	}
	if x.Every != "" {
		l = append(l, x.Every)
	}
	return append(l, Clock(x.Clock)...)
}

// Clock returns the clock variables of a clock.
func Clock(ck []api.On) []string {
	return clone.Map(ck, func(on api.On) string { return on.Name })
}

// Types returns the types of the variables of a node; of several with the same name, that of the first one.
func Types(n api.NNode) map[string]int {
	types := map[string]int{}
	for _, d := range slices.Backward(slices.Concat(n.In, n.Out, n.Locals)) {
		types[d.Name] = d.Type
	}
	return types
}
