package share

import (
	"cmp"
	"slices"

	"synchrony/api"
	"synchrony/equations"
)

// delay is a delay of a node.
type delay struct {
	at    int // the index of its equation
	init  int
	typ   int // of its variable
	clock []api.On
	right api.Expr
	reads int // the delay whose variable is the right side, or none
}

const none = -1

// The results of a comparison of two delays.
const (
	before = iota - 1
	alike
	after
)

// delaysOf returns the delays of a node, in order.
func delaysOf(n api.NNode) []delay {
	types := equations.Types(n)
	first := map[string]int{} // the first delay with a variable
	var l []delay
	for i, x := range n.Eqs {
		if x.Kind != api.NDelay || len(x.Left) != 1 {
			continue
		}
		name := x.Left[0]
		if _, ok := first[name]; !ok {
			first[name] = len(l)
		}
		l = append(l, delay{at: i, init: x.Init, typ: types[name], clock: x.Clock, right: x.Right, reads: none})
	}
	for i, x := range l {
		if k, ok := first[x.right.Name]; ok && x.right.Kind == api.EVar {
			l[i].reads = k
		}
	}
	return l
}

// readersOf returns, for each delay, the delays that read it.
func readersOf(l []delay) [][]int {
	readers := make([][]int, len(l))
	for i, x := range l {
		if x.reads != none {
			readers[x.reads] = append(readers[x.reads], i)
		}
	}
	return readers
}

// alikeParts returns the partition of the delays into those that are alike.
func alikeParts(l []delay) *partition {
	order := make([]int, len(l))
	for i := range order {
		order[i] = i
	}
	byDelay := func(a, b int) int { return compare(l[a], l[b]) }
	slices.SortFunc(order, byDelay)
	return grouped(order, func(a, b int) bool { return byDelay(a, b) == alike })
}

// compare compares what two delays have, except which delays they read: those that are alike and read delays of the same part are in the same part.
func compare(x, y delay) int {
	switch {
	case x.reads != none && y.reads == none:
		return before
	case x.reads == none && y.reads != none:
		return after
	}
	c := cmp.Or(cmp.Compare(x.init, y.init), cmp.Compare(x.typ, y.typ), slices.CompareFunc(x.clock, y.clock, compareOn))
	if c != alike || x.reads != none {
		return c
	}
	return compareExpr(x.right, y.right)
}

func compareOn(x, y api.On) int {
	return cmp.Or(cmp.Compare(x.Name, y.Name), cmp.Compare(x.T, y.T), cmp.Compare(x.Tag, y.Tag))
}

func compareExpr(x, y api.Expr) int {
	c := cmp.Or(cmp.Compare(x.Kind, y.Kind), cmp.Compare(x.Op, y.Op), cmp.Compare(x.T, y.T), cmp.Compare(x.V, y.V), cmp.Compare(x.Name, y.Name))
	if c != alike {
		return c
	}
	return slices.CompareFunc(x.Args, y.Args, compareExpr)
}
