package gen

import (
	"slices"

	"synchrony/api"
	"synchrony/clone"
)

// assignment returns the statement that assigns an expression to a variable: a merge becomes a case.
func assignment(name string, e api.Expr) api.Stmt {
	if e.Kind != api.EMerge {
		return assign(name, stripped(e))
	}
	branch := func(a api.Expr) []api.Stmt { return []api.Stmt{assignment(name, a)} }
	return api.Stmt{Kind: api.SCase, Name: e.Name, T: e.T, Branches: clone.Map(e.Args, branch)}
}

// under returns what puts statements, if there are some, under a clock. The cases have no more branches than the clock needs.
func under(ck []api.On) func(l []api.Stmt) []api.Stmt {
	return func(l []api.Stmt) []api.Stmt {
		if len(l) == 0 {
			return nil
		}
		for _, on := range slices.Backward(ck) {
			count := on.Tag + 1
			if on.T == api.TBool {
				count = 2
			}
			branches := make([][]api.Stmt, count)
			branches[on.Tag] = l
			l = []api.Stmt{{Kind: api.SCase, Name: on.Name, T: on.T, Branches: branches}}
		}
		return l
	}
}

// widen gives each case in a list as many branches as its type has values.
func widen(l []api.Stmt, enums []api.Enum) {
	for i := range l {
		s := &l[i]
		if s.Kind == api.SCase {
			branches := make([][]api.Stmt, values(enums, s.T))
			copy(branches, s.Branches)
			s.Branches = branches
		}
		for _, branch := range s.Branches {
			widen(branch, enums)
		}
	}
}

// values returns how many values a type other than int has.
func values(enums []api.Enum, t int) int {
	if t == api.TBool {
		return 2
	}
	return len(enums[t-api.TEnum].Tags)
}
