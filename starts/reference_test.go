package starts

import (
	"slices"

	"synchrony/api"
	"synchrony/clocks"
)

// lateUnder reports whether e is late if the late variables are those of the set.
func lateUnder(set map[string]bool, e api.Expr) bool {
	switch e.Kind {
	case api.EPre:
		return true
	case api.EVar:
		return set[e.Name]
	case api.EOp, api.EIf, api.EWhen:
		for _, a := range e.Args {
			if lateUnder(set, a) {
				return true
			}
		}
	}
	return false
}

// leastSet returns what all those sets of variables have in common that have each variable that is late under them.
func leastSet(n api.Node) map[string]bool {
	var names []string
	for _, d := range slices.Concat(n.Out, n.Locals) {
		names = append(names, d.Name)
	}
	common := 1<<len(names) - 1
	for code := range 1 << len(names) {
		set := map[string]bool{}
		for i, name := range names {
			set[name] = code>>i&1 == 1
		}
		lacks := func(x api.Eq) bool { return !set[x.Left[0]] && lateUnder(set, x.Right) }
		if !slices.ContainsFunc(n.Eqs, lacks) {
			common &= code
		}
	}
	least := map[string]bool{}
	for i, name := range names {
		least[name] = common>>i&1 == 1
	}
	return least
}

// misuses returns how many expressions in e are misused in another one, and how many late names there are.
func misuses(set map[string]bool, e api.Expr) int {
	n := 0
	if (e.Kind == api.EWhen || e.Kind == api.EMerge) && set[e.Name] {
		n++
	}
	for i, a := range e.Args {
		wrong := e.Kind == api.EPre || e.Kind == api.EArrow && i == 0 || e.Kind == api.EFby || e.Kind == api.EMerge || e.Kind == api.ECall
		if wrong && lateUnder(set, a) {
			n++
		}
		n += misuses(set, a)
	}
	return n
}

// reference is Check.
func reference(p api.Program) (api.Where, api.Errno) {
	if where, e := clocks.Check(p); e != api.OK {
		return where, e
	}
	for i, n := range p.Nodes {
		set := leastSet(n)
		for k, x := range n.Eqs {
			if misuses(set, x.Right) > 0 {
				return api.Where{Node: i, Eq: k}, api.ErrInit
			}
		}
		wrong := false
		for _, d := range n.Out {
			wrong = wrong || set[d.Name]
		}
		for _, d := range n.Locals {
			for _, on := range d.Clock {
				wrong = wrong || set[on.Name]
			}
		}
		for _, e := range slices.Concat(n.Assume, n.Ensure) {
			wrong = wrong || lateUnder(set, e) || misuses(set, e) > 0
		}
		if wrong {
			return api.Where{Node: i, Eq: -1}, api.ErrInit
		}
	}
	return api.Where{}, api.OK
}
