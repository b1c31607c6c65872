package share

import (
	"math/rand"
	"slices"

	"synchrony/api"
	"synchrony/expr"
)

// The references follow the chapter word by word, and take their time.

// refDelays returns the indices of the delays of a node.
func refDelays(n api.NNode) []int {
	var l []int
	for i, x := range n.Eqs {
		if x.Kind == api.NDelay && len(x.Left) == 1 {
			l = append(l, i)
		}
	}
	return l
}

// refType is the type of a variable.
func refType(n api.NNode, name string) int {
	for _, d := range slices.Concat(n.In, n.Out, n.Locals) {
		if d.Name == name {
			return d.Type
		}
	}
	return 0
}

// refMeant returns the delay with a variable, or -1.
func refMeant(n api.NNode, e api.Expr) int {
	for _, i := range refDelays(n) {
		if e.Kind == api.EVar && n.Eqs[i].Left[0] == e.Name {
			return i
		}
	}
	return -1
}

// refMay reports whether two delays can be in the same part, if together reports that others are.
func refMay(n api.NNode, i, k int, together func(i, k int) bool) bool {
	x, y := n.Eqs[i], n.Eqs[k]
	if x.Init != y.Init || !slices.Equal(x.Clock, y.Clock) || refType(n, x.Left[0]) != refType(n, y.Left[0]) {
		return false
	}
	a, b := refMeant(n, x.Right), refMeant(n, y.Right)
	return expr.Same(x.Right, y.Right) || a >= 0 && b >= 0 && together(a, b)
}

// refParts begins with all delays together, and takes apart those that cannot be, as long as there are some.
func refParts(n api.NNode) [][]int {
	apart := map[[2]int]bool{}
	together := func(i, k int) bool { return !apart[[2]int{i, k}] }
	for changed := true; changed; {
		changed = false
		for _, i := range refDelays(n) {
			for _, k := range refDelays(n) {
				if together(i, k) && !refMay(n, i, k, together) {
					apart[[2]int{i, k}] = true
					changed = true
				}
			}
		}
	}
	var parts [][]int
	for _, i := range refDelays(n) {
		k := slices.IndexFunc(parts, func(part []int) bool { return together(part[0], i) })
		if k < 0 {
			parts = append(parts, []int{i})
		} else {
			parts[k] = append(parts[k], i)
		}
	}
	return parts
}

// refNames returns where the names of variables are that an expression reads.
func refNames(e *api.Expr) []*string {
	var l []*string
	if e.Kind == api.EVar || e.Kind == api.EWhen || e.Kind == api.EMerge {
		l = append(l, &e.Name)
	}
	for i := range e.Args {
		l = append(l, refNames(&e.Args[i])...)
	}
	return l
}

// refPlaces returns where the names of variables are that can be replaced in a node.
func refPlaces(n *api.NNode) []*string {
	var l []*string
	clock := func(ck []api.On) {
		for i := range ck {
			l = append(l, &ck[i].Name)
		}
	}
	for i := range n.Eqs {
		x := &n.Eqs[i]
		l = append(l, refNames(&x.Right)...)
		for k := range x.Args {
			l = append(l, refNames(&x.Args[k])...)
		}
		if x.Every != "" {
			l = append(l, &x.Every)
		}
		clock(x.Clock)
	}
	for _, list := range [][]api.Decl{n.In, n.Out, n.Locals} {
		for i := range list {
			clock(list[i].Clock)
		}
	}
	return l
}

func refNode(n api.NNode) api.NNode {
	n = deepCopy(n)
	parts := refParts(n)
	others := map[int]string{} // for each delay that is not kept, the variable of the one that is
	for _, part := range parts {
		for _, i := range part[1:] {
			others[i] = n.Eqs[part[0]].Left[0]
		}
	}
	for _, place := range refPlaces(&n) {
		for i, k := range others {
			if n.Eqs[i].Left[0] == *place {
				*place = k
				break
			}
		}
	}
	for i := len(n.Eqs) - 1; i >= 0; i-- {
		k, ok := others[i]
		if !ok {
			continue
		}
		d := n.Eqs[i].Left[0]
		declared := func(x api.Decl) bool { return x.Name == d }
		if slices.ContainsFunc(n.Out, declared) {
			n.Eqs[i] = def(d, v(k), n.Eqs[i].Clock...)
			n.Eqs[i].Left = []string{d}
			continue
		}
		n.Eqs = slices.Delete(n.Eqs, i, i+1)
		if at := slices.IndexFunc(n.Locals, declared); at >= 0 {
			n.Locals = slices.Delete(n.Locals, at, at+1)
		}
	}
	return n
}

func pick[T any](r *rand.Rand, l ...T) T { return l[r.Intn(len(l))] }

// times returns up to n results.
func times[T any](r *rand.Rand, n int, f func() T) []T {
	var l []T
	for range r.Intn(n + 1) {
		l = append(l, f())
	}
	return l
}

// anyNode returns a node with few names and many delays, in which anything can be wrong.
func anyNode(r *rand.Rand) api.NNode {
	name := func() string { return pick(r, "a", "b", "c", "d", "e", "f", "g") }
	onSome := func() api.On { return api.On{Name: name(), T: pick(r, 1, 1, 1, 3), Tag: pick(r, 0, 0, 0, 1)} }
	odd := r.Intn(9) // how much there is in which delays differ
	clock := func() []api.On { return times(r, pick(r, 0, r.Intn(1+odd)/4), onSome) }
	decl := func() api.Decl { return api.Decl{Name: name(), Type: pick(r, 2, 2-r.Intn(1+odd)/4), Clock: clock()} }
	var tree func(depth int) api.Expr
	tree = func(depth int) api.Expr {
		if k := r.Intn(6 + odd/2); k < 5 {
			return v(string("abcdefg"[r.Intn(min(2+odd, 7))]))
		} else if k == 5 {
			return api.Expr{Kind: api.EConst, T: 1 + r.Intn(2), V: r.Intn(2)}
		}
		e := api.Expr{Kind: 1 + r.Intn(12), Name: pick(r, name(), ""), Op: r.Intn(2), T: r.Intn(2)}
		if depth > 0 {
			e.Args = times(r, 2, func() api.Expr { return tree(depth - 1) })
		}
		return e
	}
	right := func() api.Expr { return tree(2) }
	equation := func() api.NEq {
		x := api.NEq{Kind: pick(r, api.NDelay, api.NDelay, api.NDelay, api.NDef, api.NCall, api.NWord, r.Intn(7)), Left: []string{name()}, Init: r.Intn(2+odd) / (1 + odd), Right: right(), Clock: clock()}
		if r.Intn(9) == 0 {
			x.Left = times(r, 3, name)
		}
		if x.Kind != api.NDelay || r.Intn(9) == 0 {
			x.Every, x.Node, x.Args = pick(r, name(), ""), name(), times(r, 2, right)
		}
		return x
	}
	return api.NNode{Name: name(), In: times(r, 2, decl), Out: times(r, 3, decl), Locals: times(r, 6, decl), Eqs: times(r, 10, equation)}
}

// distinct removes equations until no two delays have the same variable.
func distinct(n api.NNode) api.NNode {
	seen := map[string]bool{}
	n.Eqs = slices.DeleteFunc(n.Eqs, func(x api.NEq) bool {
		again := x.Kind == api.NDelay && len(x.Left) == 1 && seen[x.Left[0]]
		if x.Kind == api.NDelay && len(x.Left) == 1 {
			seen[x.Left[0]] = true
		}
		return again
	})
	return n
}
