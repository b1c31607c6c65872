package share

import (
	"math/rand"
	"slices"
	"strconv"
	"testing"

	"synchrony/api"
)

// expectParts checks the parts of a node, and that it stays as it is.
func expectParts(t *testing.T, n api.NNode, want ...[]int) {
	t.Helper()
	before := deepCopy(n)
	if parts := Parts(n); !sameParts(parts, want) {
		t.Errorf("the parts of %v are %v, want %v", n.Eqs, parts, want)
	}
	if parts := refParts(n); !sameParts(parts, want) {
		t.Errorf("the reference for %v is %v, want %v", n.Eqs, parts, want)
	}
	if !sameNode(n, before) {
		t.Errorf("the argument %v has changed", before)
	}
}

// TestParts is P25.1: what the delays of a part have in common.
func TestParts(t *testing.T) {
	n := api.NNode{Name: "f", In: decl("a"), Out: decl("w v"), Locals: decl("x y z")}
	n.Eqs = []api.NEq{fby("x", 0, v("a")), fby("y", 0, v("a")), fby("z", 0, v("x")), fby("w", 0, v("y")), fby("v", 1, v("a"))}
	expectParts(t, n, []int{0, 1}, []int{2, 3}, []int{4})
	expectParts(t, some())
	expectParts(t, api.NNode{})
	expectParts(t, some(fby("x", 0, v("a"))), []int{0})
	expectParts(t, some(fby("x", 0, v("y")), fby("y", 0, v("x"))), []int{0, 1})
	expectParts(t, some(fby("x", 0, v("y")), fby("y", 1, v("x"))), []int{0}, []int{1})
	expectParts(t, some(fby("x", 0, v("x")), fby("y", 0, v("y"))), []int{0, 1})
	expectParts(t, some(fby("x", 0, v("x")), fby("y", 0, v("x"))), []int{0, 1})
	expectParts(t, some(fby("x", 0, v("p")), fby("y", 0, v("q")), fby("p", 0, v("x")), fby("q", 1, v("y"))), []int{0, 2}, []int{1}, []int{3})
	expectParts(t, some(fby("x", 0, v("p")), fby("y", 1, v("q")), fby("p", 1, v("x")), fby("q", 0, v("y"))), []int{0, 3}, []int{1, 2})
	expectParts(t, some(fby("x", 0, v("a")), fby("y", 0, v("b"))), []int{0}, []int{1})
	expectParts(t, some(fby("x", 0, v("a")), fby("y", 0, v("x"))), []int{0}, []int{1})
	expectParts(t, some(fby("x", 0, number(1)), fby("y", 0, number(1)), fby("p", 0, number(0))), []int{0, 1}, []int{2})
	expectParts(t, some(fby("p", -1, v("a")), fby("x", 1, v("a")), fby("q", -1, v("a"))), []int{0, 2}, []int{1})
}

// TestPartsUnlike is P25.1: whatever differs in Init, Clock, type or right side makes different parts.
func TestPartsUnlike(t *testing.T) {
	tree := api.Expr{Kind: api.EOp, Op: api.OpAdd, T: 1, V: 2, Name: "n", Args: []api.Expr{v("a"), number(1)}}
	base := fby("x", 3, tree, on("a"), on("b"))
	for i, change := range []func(x *api.NEq){
		func(x *api.NEq) { x.Init = 4 },
		func(x *api.NEq) { x.Clock = x.Clock[:1] },
		func(x *api.NEq) { x.Clock = append(x.Clock, on("c")) },
		func(x *api.NEq) { slices.Reverse(x.Clock) },
		func(x *api.NEq) { x.Clock[1].Name = "c" },
		func(x *api.NEq) { x.Clock[1].T = api.TEnum },
		func(x *api.NEq) { x.Clock[0].Tag = 0 },
		func(x *api.NEq) { x.Left[0] = "c" }, // no type
		func(x *api.NEq) { x.Right.Kind = api.EIf },
		func(x *api.NEq) { x.Right.Op = api.OpSub },
		func(x *api.NEq) { x.Right.T = 2 },
		func(x *api.NEq) { x.Right.V = 1 },
		func(x *api.NEq) { x.Right.Name = "" },
		func(x *api.NEq) { x.Right.Args = x.Right.Args[:1] },
		func(x *api.NEq) { slices.Reverse(x.Right.Args) },
		func(x *api.NEq) { x.Right.Args[1].V = 2 },
		func(x *api.NEq) { x.Right = v("p") },
	} {
		y := deepCopy(base)
		y.Left[0] = "y"
		expectParts(t, some(base, y), []int{0, 1})
		change(&y)
		expectParts(t, some(base, y), []int{0}, []int{1})
		expectParts(t, some(y, base), []int{0}, []int{1})
		if t.Failed() {
			t.Fatalf("the change %d", i)
		}
	}
}

// TestPartsIgnore is P25.1: what is no delay is in no part, and what the chapter does not name does not matter.
func TestPartsIgnore(t *testing.T) {
	expectParts(t, some(def("x", v("a")), def("y", v("a"))))
	expectParts(t, some(fby("x y", 0, v("a")), fby("", 0, v("a")), fby("p", 0, v("a"))), []int{2})
	expectParts(t, some(call("x", "", v("a")), fby("y", 0, v("a")), def("p", v("b")), fby("q", 0, v("a"))), []int{1, 3})
	expectParts(t, some(def("p", v("a")), def("q", v("a")), fby("x", 0, v("p")), fby("y", 0, v("q"))), []int{2}, []int{3}) // not the same variable
	other := fby("y", 0, v("a"))
	other.Node, other.Every, other.Args = "g", "b", []api.Expr{number(1)}
	expectParts(t, some(fby("x", 0, v("a")), other), []int{0, 1})
	empty := fby("y", 0, api.Expr{Kind: api.EConst, Args: []api.Expr{}})
	empty.Clock = []api.On{}
	expectParts(t, some(fby("x", 0, with(api.EConst)), empty), []int{0, 1})
}

// TestPartsTypes is P25.1: the first declaration of a variable counts, and a variable without one has the type 0.
func TestPartsTypes(t *testing.T) {
	n := some(fby("x", 0, v("a")), fby("y", 0, v("a")), fby("p", 0, v("a")), fby("u", 0, v("a")), fby("w", 0, v("a")))
	expectParts(t, n, []int{0, 1, 2}, []int{3, 4})
	n.Out[1].Type = api.TBool
	expectParts(t, n, []int{0, 2}, []int{1}, []int{3, 4})
	n.In = append(n.In, api.Decl{Name: "y", Type: api.TInt}, api.Decl{Name: "y", Type: api.TBool})
	expectParts(t, n, []int{0, 1, 2}, []int{3, 4})
	n.Locals = append(n.Locals, api.Decl{Name: "u"}, api.Decl{Name: "w", Type: -1})
	expectParts(t, n, []int{0, 1, 2}, []int{3}, []int{4})
	n.Locals = append(n.Locals, api.Decl{Name: "w"}, api.Decl{Name: "p", Type: api.TBool})
	expectParts(t, n, []int{0, 1, 2}, []int{3}, []int{4})
}

// TestPartsTwice is P25.1: if several delays have the same variable, the first one is meant.
func TestPartsTwice(t *testing.T) {
	n := some(fby("x", 0, v("a")), fby("x", 0, v("b")), fby("y", 0, v("b")), fby("p", 0, v("x")), fby("q", 0, v("y")))
	expectParts(t, n, []int{0}, []int{1, 2}, []int{3}, []int{4})
	n.Eqs[2].Right = v("a")
	expectParts(t, n, []int{0, 2}, []int{1}, []int{3, 4})
}

// partitions calls f with all partitions of the numbers below n, as the part of each number.
func partitions(n int, f func(part []int)) {
	var add func(part []int, parts int)
	add = func(part []int, parts int) {
		if len(part) == n {
			f(part)
			return
		}
		for k := range parts + 1 {
			add(append(slices.Clone(part), k), max(parts, k+1))
		}
	}
	add(nil, 0)
}

// TestCoarsest is P25.1: of all partitions in which delays of a part are as they must be, the parts are the coarsest one.
func TestCoarsest(t *testing.T) {
	r := rand.New(rand.NewSource(1))
	large := 0
	for range 4000 {
		n := anyNode(r)
		delays := refDelays(n)
		parts := Parts(n)
		is := make([]int, len(n.Eqs))
		for k, part := range parts {
			for _, i := range part {
				is[i] = k
			}
			if len(part) > 1 {
				large++
			}
		}
		found := false
		partitions(min(len(delays), 7), func(part []int) {
			if len(delays) > 7 {
				return
			}
			of := map[int]int{}
			for k, i := range delays {
				of[i] = part[k]
			}
			together := func(i, k int) bool { return of[i] == of[k] }
			same := true
			for _, i := range delays {
				for _, k := range delays {
					if together(i, k) && !refMay(n, i, k, together) {
						return
					}
				}
			}
			for _, i := range delays {
				for _, k := range delays {
					if together(i, k) && is[i] != is[k] {
						t.Fatalf("%v: the parts are %v, but %d and %d can be together", n, parts, i, k)
					}
					same = same && together(i, k) == (is[i] == is[k])
				}
			}
			found = found || same
		})
		if !found && len(delays) <= 7 {
			t.Fatalf("%v: the parts are %v, which cannot be together", n, parts)
		}
	}
	if large < 300 {
		t.Errorf("there were %d parts of several delays", large)
	}
}

// TestAnyParts is P25.1 for any nodes.
func TestAnyParts(t *testing.T) {
	r := rand.New(rand.NewSource(2))
	for range 20000 {
		n := anyNode(r)
		if parts := Parts(n); !sameParts(parts, refParts(n)) {
			t.Fatalf("the parts of\n%v\nare %v, want %v", n, parts, refParts(n))
		}
		expectNewMemory(t, n, Parts(n))
	}
}

// TestReading is P25.1 for nodes whose delays read each other in all ways.
func TestReading(t *testing.T) {
	r := rand.New(rand.NewSource(3))
	sizes := map[int]int{}
	for range 3000 {
		var n api.NNode
		count := 1 + r.Intn(14)
		for i := range count {
			n.Eqs = append(n.Eqs, fby(strconv.Itoa(i), pick(r, 0, 0, 0, 0, 0, 1), v(strconv.Itoa(r.Intn(count+r.Intn(2))))))
		}
		parts := Parts(n)
		if !sameParts(parts, refParts(n)) {
			t.Fatalf("the parts of\n%v\nare %v, want %v", n.Eqs, parts, refParts(n))
		}
		sizes[len(parts)]++
	}
	if len(sizes) < 10 {
		t.Errorf("the numbers of parts are %v", sizes)
	}
}

// many is a node with delays, of which each one reads the one whose number reads returns.
func many(count int, reads func(i int) int) api.NNode {
	n := api.NNode{Name: "f"}
	for i := range count {
		n.Eqs = append(n.Eqs, fby("x"+strconv.Itoa(i), 0, v("x"+strconv.Itoa(reads(i)))))
	}
	return n
}

// TestManyDelays is P25.1 and P25.2 for nodes with very many delays, which one difference divides step by step.
func TestManyDelays(t *testing.T) {
	const count = 1 << 17
	next := func(i int) int { return i + 1 } // the last one reads something else
	for _, x := range []struct {
		name  string
		n     api.NNode
		parts int
	}{
		{"a chain", many(count, next), count},
		{"two chains", many(count, func(i int) int { return i + 2 }), count},
		{"a ring", many(count, func(i int) int { return (i + 1) % count }), 1},
		{"a tree", many(count, func(i int) int { return (i+1)/2 - 1 }), 17 + 1},
		{"a way into a ring of two", many(count, func(i int) int { return i ^ 1 }), 1},
	} {
		parts := Parts(x.n)
		if x.name == "two chains" { // they end at different variables
			x.parts = count
		}
		if len(parts) != x.parts {
			t.Errorf("%s: there are %d parts, want %d", x.name, len(parts), x.parts)
		}
		if n := Node(x.n); len(n.Eqs) != x.parts {
			t.Errorf("%s: %d equations are left, want %d", x.name, len(n.Eqs), x.parts)
		}
	}
	ring := many(count, func(i int) int { return (i + 1) % count })
	ring.Eqs[7].Init = 1
	if parts := Parts(ring); len(parts) != count {
		t.Errorf("a ring with another value has %d parts", len(parts))
	}
	for i := range count / 4 {
		ring.Eqs[4*i+3].Init = 1
	}
	ring.Eqs[7].Init = 1
	if parts := Parts(ring); len(parts) != 4 || len(parts[3]) != count/4 || parts[3][1] != 7 {
		t.Errorf("a ring with four values has %d parts", len(parts))
	}
}

// nested is an expression in which parts are nested.
func nested(depth int, inner api.Expr) api.Expr {
	for range depth {
		inner = api.Expr{Kind: api.EOp, Op: api.OpNot, Args: []api.Expr{inner}}
	}
	return inner
}

// TestDeepDelays is P25.1 and P25.2 for expressions of the greatest depth.
func TestDeepDelays(t *testing.T) {
	const depth = 1<<16 - 8
	n := some(fby("x", 0, nested(depth, v("q"))), fby("p", 0, nested(depth, v("q"))), fby("y", 0, nested(depth, v("r"))), fby("q", 0, v("a")), fby("r", 0, v("a")))
	if parts := Parts(n); !sameParts(parts, [][]int{{0, 1}, {2}, {3, 4}}) {
		t.Errorf("the parts are %v", parts)
	}
	want := some(n.Eqs[0], fby("y", 0, nested(depth, v("q"))), n.Eqs[3])
	want.Locals = decl("q")
	if !sameNode(Node(n), want) {
		t.Errorf("the node is wrong")
	}
}
