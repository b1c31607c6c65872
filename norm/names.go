package norm

import (
	"synchrony/api"
	"synchrony/scope"
)

// names returns the names of all kinds in a plain program that is accepted, so that each one is declared somewhere.
func names(p api.Program) map[string]bool {
	used := map[string]bool{}
	for _, x := range p.Enums {
		used[x.Name] = true
		for _, tag := range x.Tags {
			used[tag] = true
		}
	}
	for _, n := range p.Nodes {
		used[n.Name] = true
		for _, d := range scope.Vars(n) {
			used[d.Name] = true
		}
	}
	return used
}
