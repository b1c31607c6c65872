package simp

import (
	"slices"

	"synchrony/api"
	"synchrony/expr"
)

// neededOf returns, for each equation of a node, whether it is needed.
func neededOf(n api.NNode) []bool {
	definers := definersOf(n.Eqs)
	clocks := map[string][]string{} // the clock variables of the locals with a name
	for _, d := range n.Locals {
		clocks[d.Name] = append(clocks[d.Name], namesIn(d.Clock)...)
	}
	var names []string // of variables that are needed
	for _, d := range n.Out {
		names = append(names, d.Name)
	}
	needed := make([]bool, len(n.Eqs))
	for len(names) > 0 {
		name := names[len(names)-1]
		names = names[:len(names)-1]
		for _, i := range definers[name] {
			if needed[i] {
				continue
			}
			needed[i] = true
			names = append(names, reads(n.Eqs[i])...)
			for _, defined := range n.Eqs[i].Left {
				names = append(names, clocks[defined]...)
			}
		}
		delete(definers, name) // all of them are needed now
	}
	return needed
}

// definersOf returns the indices of the equations that define each variable.
func definersOf(eqs []api.NEq) map[string][]int {
	definers := map[string][]int{}
	for i, x := range eqs {
		for _, name := range x.Left {
			definers[name] = append(definers[name], i)
		}
	}
	return definers
}

// reads returns the variables that an equation reads.
func reads(x api.NEq) []string {
	l := slices.Concat(expr.Names(x.Right), namesIn(x.Clock))
	for _, a := range x.Args {
		l = append(l, expr.Names(a)...)
	}
	if x.Every != "" {
		l = append(l, x.Every)
	}
	return l
}

func namesIn(ck []api.On) []string {
	return mapped(ck, func(on api.On) string { return on.Name })
}
