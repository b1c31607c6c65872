package norm

import (
	"strconv"

	"synchrony/api"
	"synchrony/scope"
)

// naming returns a function that names the added variables of a program, one after the other.
func naming(p api.Program) func() string {
	used, last := names(p), 0
	return func() string {
		for {
			last++
			if name := "aux_" + strconv.Itoa(last); !used[name] {
				return name
			}
		}
	}
}

// names returns the names of all kinds in a plain program that is accepted, so that each one is declared somewhere.
func names(p api.Program) map[string]bool {
	used := map[string]bool{}
	for _, x := range p.Enums {
		used[x.Name] = true
		for _, tag := range x.Tags {
			used[tag] = true
		}
	}
	for _, n := range p.Nodes {
		used[n.Name] = true
		for _, d := range scope.Vars(n) {
			used[d.Name] = true
		}
	}
	return used
}
