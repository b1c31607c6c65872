package sched

import (
	"math/rand"
	"slices"
	"testing"

	"synchrony/api"
	"synchrony/graph"
)

// The references do what the chapter says, without regard to time.

// refNames adds the names of variables in e.
func refNames(names map[string]bool, e api.Expr) {
	switch e.Kind {
	case api.EVar, api.EWhen, api.EMerge:
		names[e.Name] = true
	}
	for _, a := range e.Args {
		refNames(names, a)
	}
}

func refReads(x api.NEq) map[string]bool {
	names := map[string]bool{}
	refNames(names, x.Right)
	for _, a := range x.Args {
		refNames(names, a)
	}
	if x.Every != "" {
		names[x.Every] = true
	}
	for _, on := range x.Clock {
		names[on.Name] = true
	}
	return names
}

func refWaits(j, i api.NEq) bool {
	reads := refReads(j)
	return i.Kind != api.NDelay && slices.ContainsFunc(i.Left, func(name string) bool { return reads[name] })
}

// refOrder returns what can be ordered of the equations.
func refOrder(eqs []api.NEq) []int {
	var l []int
	canCome := func(j int) bool {
		for i := range eqs {
			if refWaits(eqs[j], eqs[i]) && !slices.Contains(l, i) {
				return false
			}
		}
		return !slices.Contains(l, j)
	}
	for {
		var can, same []int
		for j := range eqs {
			if !canCome(j) {
				continue
			}
			can = append(can, j)
			if len(l) > 0 && slices.Equal(eqs[j].Clock, eqs[l[len(l)-1]].Clock) {
				same = append(same, j)
			}
		}
		switch {
		case len(same) > 0:
			l = append(l, same[0])
		case len(can) > 0:
			l = append(l, can[0])
		default:
			return l
		}
	}
}

func refRight(eqs []api.NEq) bool {
	for j := range eqs {
		for i := j; i < len(eqs); i++ {
			if refWaits(eqs[j], eqs[i]) {
				return false
			}
		}
	}
	return true
}

// cyclic reports, by layer 4, whether equations wait for each other in a circle.
func cyclic(eqs []api.NEq) bool {
	var edges []api.Edge
	for j := range eqs {
		for i := range eqs {
			if refWaits(eqs[j], eqs[i]) {
				edges = append(edges, api.Edge{From: i, To: j})
			}
		}
	}
	_, e := graph.Cycle(len(eqs), edges)
	return e == api.OK
}

// anyNode returns a node with some names, in which anything can be wrong.
func anyNode(r *rand.Rand) api.NNode {
	names := []string{"a", "b", "c", "d", "e", "f", "g", "h", "i", "j", "k", "l", ""}[:3+r.Intn(11)]
	reads := 1 + r.Intn(3)
	name := func() string { return pick(r, names...) }
	clock := func() []api.On {
		if r.Intn(2) == 0 {
			return nil
		}
		return times(r, 2, func() api.On { return api.On{Name: pick(r, names[0], names[1]), T: 1 + r.Intn(2), Tag: r.Intn(2)} })
	}
	var expression func(depth int) api.Expr
	expression = func(depth int) api.Expr {
		e := api.Expr{Kind: pick(r, api.EConst, api.EVar, api.EVar, api.EOp, api.EWhen, api.EMerge, api.ECall, r.Intn(14)), Name: name()}
		if depth > 0 {
			e.Args = times(r, reads, func() api.Expr { return expression(depth - 1) })
		}
		return e
	}
	decl := func() api.Decl { return api.Decl{Name: name(), Type: r.Intn(4), Clock: clock()} }
	equation := func() api.NEq {
		x := api.NEq{Kind: pick(r, api.NDef, api.NDef, api.NDelay, api.NCall, api.NWord, r.Intn(7)), Left: []string{name()}, Clock: clock(), Init: r.Intn(3), Node: name()}
		if r.Intn(3) > 0 {
			x.Right = expression(r.Intn(3))
		}
		if r.Intn(3) == 0 {
			x.Left = times(r, 3, name)
		}
		if x.Kind == api.NCall || r.Intn(9) == 0 {
			x.Args, x.Every = times(r, 2, func() api.Expr { return expression(1) }), pick(r, name(), "")
		}
		return x
	}
	return api.NNode{Name: name(), In: times(r, 2, decl), Out: times(r, 2, decl), Locals: times(r, 3, decl), Eqs: times(r, 9, equation)}
}

// TestReference is P21.1 to P21.4 for any nodes.
func TestReference(t *testing.T) {
	r := rand.New(rand.NewSource(1))
	right, wrong, moved := 0, 0, 0
	for range 40000 {
		n := anyNode(r)
		before := deepCopy(n)
		want := refOrder(n.Eqs)
		l, e := Order(n)
		m, f := Node(n)
		if Right(n) != refRight(n.Eqs) {
			t.Fatalf("Right of %v is %v", n, Right(n))
		}
		if !sameNode(n, before) {
			t.Fatalf("the argument %v has changed", before)
		}
		if (len(want) < len(n.Eqs)) != cyclic(n.Eqs) {
			t.Fatalf("%v: the references differ", n)
		}
		if len(want) < len(n.Eqs) {
			wrong++
			if len(l) > 0 || e != api.ErrCycle || !sameNode(m, api.NNode{}) || f != api.ErrCycle {
				t.Fatalf("%v: Order is %v, the errors are %d and %d", n, l, int(e), int(f))
			}
			continue
		}
		right++
		if !slices.Equal(l, want) || e != api.OK || f != api.OK || len(m.Eqs) != len(l) {
			t.Fatalf("%v: Order is %v, want %v; the errors are %d and %d", n, l, want, int(e), int(f))
		}
		for i, k := range want {
			before.Eqs[i] = n.Eqs[k]
		}
		if !sameNode(m, before) || !Right(m) {
			t.Fatalf("Node of %v is %v", n, m)
		}
		expectNewMemory(t, n, m)
		if !sameNode(m, n) {
			moved++
		}
		for i := range m.Eqs {
			m.Eqs[i].Clock = deepCopy(m.Eqs[0].Clock)
		}
		again, e := Node(m) // which can wait for other equations now
		if stable := e == api.OK && sameNode(again, m); stable != refRight(m.Eqs) {
			t.Fatalf("Node of %v is %v, the error is %d", m, again, int(e))
		}
		if t.Failed() {
			return
		}
	}
	if right < 9000 || wrong < 9000 || moved < 5000 {
		t.Errorf("%d nodes have an order, %d of them another one, %d have none", right, moved, wrong)
	}
}
