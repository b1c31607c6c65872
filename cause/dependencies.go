package cause

import (
	"cmp"
	"slices"

	"synchrony/api"
	"synchrony/expr"
	"synchrony/graph"
	"synchrony/scope"
)

// dependencies returns an edge to each equation of a node from each one on which it depends, in order.
func dependencies(n api.Node) []api.Edge {
	clocks := map[string][]api.On{}
	for _, d := range scope.Vars(n) {
		clocks[d.Name] = d.Clock
	}
	definitions := map[string]int{}
	for i, x := range n.Eqs {
		for _, name := range x.Left {
			definitions[name] = i
		}
	}
	var l []api.Edge
	for i, x := range n.Eqs {
		names := expr.Instant(x.Right)
		for _, left := range x.Left {
			for _, on := range clocks[left] {
				names = append(names, on.Name)
			}
		}
		for _, name := range names {
			if from, ok := definitions[name]; ok { // an input has none
				l = append(l, api.Edge{From: from, To: i})
			}
		}
	}
	slices.SortFunc(l, compare)
	return slices.Compact(l)
}

// compare orders edges by From, and then by To.
func compare(a, b api.Edge) int {
	return cmp.Or(cmp.Compare(a.From, b.From), cmp.Compare(a.To, b.To))
}

// inCycle returns the least equation of a node that is in a cycle, and whether there is one.
func inCycle(n api.Node) (int, bool) {
	l := dependencies(n)
	cyclic := func(part []int) bool {
		_, loop := slices.BinarySearchFunc(l, api.Edge{From: part[0], To: part[0]}, compare)
		return loop || len(part) > 1
	}
	parts, _ := graph.Parts(len(n.Eqs), l)
	i := slices.IndexFunc(parts, cyclic)
	if i < 0 {
		return 0, false
	}
	return parts[i][0], true
}
