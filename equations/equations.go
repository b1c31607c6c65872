// Package equations tells about normalized equations what several layers ask.
package equations

import (
	"synchrony/api"
	"synchrony/clone"
	"synchrony/expr"
)

// Reads returns the variables that an equation reads. A variable that is read in several places can be in the list several times.
func Reads(x api.NEq) []string {
	l := expr.Names(x.Right)
	for _, a := range x.Args {
		l = append(l, expr.Names(a)...)
	}
	if x.Every != "" {
		l = append(l, x.Every)
	}
	return append(l, Clock(x.Clock)...)
}

// Clock returns the clock variables of a clock.
func Clock(ck []api.On) []string {
	return clone.Map(ck, func(on api.On) string { return on.Name })
}
