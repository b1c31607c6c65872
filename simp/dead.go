package simp

import (
	"synchrony/api"
	"synchrony/equations"
)

// neededOf returns, for each equation of a node, whether it is needed.
func neededOf(n api.NNode) []bool {
	definers := definersOf(n.Eqs)
	clocks := map[string][]string{} // the clock variables of the locals with a name
	for _, d := range n.Locals {
		clocks[d.Name] = append(clocks[d.Name], equations.Clock(d.Clock)...)
	}
	var names []string // of variables that are needed
	for _, d := range n.Out {
		names = append(names, d.Name)
	}
	needed := make([]bool, len(n.Eqs))
	for len(names) > 0 {
		name := names[len(names)-1]
		names = names[:len(names)-1]
		for _, i := range definers[name] {
			if needed[i] {
				continue
			}
			needed[i] = true
			names = append(names, equations.Reads(n.Eqs[i])...)
			for _, defined := range n.Eqs[i].Left {
				names = append(names, clocks[defined]...)
			}
		}
		delete(definers, name) // all of them are needed now
	}
	return needed
}

// definersOf returns the indices of the equations that define each variable.
func definersOf(eqs []api.NEq) map[string][]int {
	definers := map[string][]int{}
	for i, x := range eqs {
		for _, name := range x.Left {
			definers[name] = append(definers[name], i)
		}
	}
	return definers
}
