package share

import (
	"math/rand"
	"testing"

	"synchrony/api"
)

// expectNode checks what a node becomes, and that it stays as it is.
func expectNode(t *testing.T, n, want api.NNode) {
	t.Helper()
	n, before := deepCopy(n), n
	is := Node(n)
	if !sameNode(is, want) {
		t.Errorf("the node\n%v becomes\n%v, want\n%v", n, is, want)
	}
	if ref := refNode(n); !sameNode(ref, want) {
		t.Errorf("the reference for\n%v is\n%v, want\n%v", n, ref, want)
	}
	if !sameNode(n, before) {
		t.Errorf("the argument\n%v has changed", before)
	}
	expectNewMemory(t, n, is)
}

// TestNode is P25.2: what happens to the delays.
func TestNode(t *testing.T) {
	n := api.NNode{Name: "f", In: decl("a"), Out: decl("w v"), Locals: decl("x y z")}
	n.Eqs = []api.NEq{fby("x", 0, v("a")), fby("y", 0, v("a")), fby("z", 0, v("x")), fby("w", 0, v("y")), fby("v", 1, v("a"))}
	want := api.NNode{Name: "f", In: decl("a"), Out: decl("w v"), Locals: decl("x z")}
	want.Eqs = []api.NEq{fby("x", 0, v("a")), fby("z", 0, v("x")), def("w", v("z")), fby("v", 1, v("a"))}
	expectNode(t, n, want)
	expectNode(t, want, want)
	expectNode(t, api.NNode{}, api.NNode{})
	expectNode(t, some(), some())
	expectNode(t, some(fby("x", 0, v("y")), fby("y", 0, v("x"))), some(fby("x", 0, v("x")), def("y", v("x"))))
	expectNode(t, some(fby("y", 0, v("a")), fby("x", 0, v("a"))), some(fby("y", 0, v("a")), def("x", v("y"))))
	without := some(fby("r", 0, v("r")))
	without.Locals = decl("r")
	expectNode(t, some(fby("r", 0, v("p")), fby("p", 0, v("q")), fby("q", 0, v("r"))), without)
	without = some(fby("x", 0, v("a")), fby("p", 1, v("x")), def("y", v("x")))
	without.Locals = decl("p")
	expectNode(t, some(fby("x", 0, v("a")), fby("q", 0, v("a")), fby("p", 1, v("r")), fby("r", 0, v("a")), fby("y", 0, v("a"))), without)
}

// TestNodeReplaced is P25.2: the places in which variables are replaced, and those in which they are not.
func TestNodeReplaced(t *testing.T) {
	tree := func(name string) api.Expr {
		e := api.Expr{Kind: api.EOp, Op: api.OpAdd, Name: "q", Args: []api.Expr{v(name), when(name, v(name)), merge(name, v(name), v("a")), with(api.EPre, v(name))}}
		e.Args = append(e.Args, api.Expr{Kind: api.ECall, Name: "q"}, api.Expr{Kind: api.EWord, Name: "q"}, api.Expr{Kind: api.EState, Name: "q"})
		return e
	}
	node := func(name string, shared ...api.NEq) api.NNode {
		n := some(append(shared, def("x", tree(name), on("a"), on(name)), fby("y", 0, tree(name), on(name)), call("q r", name, tree(name), v(name)))...)
		odd := api.NEq{Kind: api.NWord, Left: []string{"q"}, Node: "q", Right: tree(name), Args: []api.Expr{v(name)}, Every: name}
		n.Eqs = append(n.Eqs, odd, def("r", v("a")), api.NEq{Kind: 7, Right: v(name)}, fby("q p", 0, v(name)))
		n.In = append(decl("e", on(name)), decl("q", on("a"), on(name))...)
		n.Out = decl("x y", on(name), on(name))
		n.Locals = append(decl("p q r"), decl("s", on(name))...)
		return n
	}
	want := node("p", fby("p", 0, v("a")))
	want.Locals = append(decl("p r"), decl("s", on("p"))...)
	expectNode(t, node("q", fby("p", 0, v("a")), fby("q", 0, v("a"))), want)
}

// TestNodeClocks is P25.2: an output that is computed twice keeps the Clock of its delay, in which variables are replaced, too.
func TestNodeClocks(t *testing.T) {
	n := some(fby("p", 0, v("a")), fby("q", 0, v("a")), fby("x", 1, v("b"), on("q")), fby("y", 1, v("b"), on("q")), fby("r", 1, v("b"), on("p")))
	n.Out = decl("x y", on("q"))
	want := some(fby("p", 0, v("a")), fby("x", 1, v("b"), on("p")), def("y", v("x"), on("p")), fby("r", 1, v("b"), on("p")))
	want.Out, want.Locals = decl("x y", on("p")), decl("p r")
	expectNode(t, n, want)
	again := some(want.Eqs[0], want.Eqs[1], want.Eqs[2]) // now the clocks of x and r are equal
	again.Out, again.Locals = want.Out, decl("p")
	expectNode(t, want, again)
}

// TestNodeOnce is P25.2: all variables are replaced at once, and the equation of an output that is replaced has nothing else.
func TestNodeOnce(t *testing.T) {
	odd := fby("y", 0, v("p"))
	odd.Node, odd.Every, odd.Args = "g", "y", []api.Expr{v("y")}
	n := some(fby("p", 0, v("y")), odd, fby("x", 0, v("q")), fby("q", 0, v("x")))
	want := some(fby("p", 0, v("p")), def("y", v("p")), def("x", v("p")))
	want.Locals = decl("p r")
	expectNode(t, n, want)
}

// TestNodeDeclarations is P25.2: only the first declaration among the locals is removed, and an output keeps even that.
func TestNodeDeclarations(t *testing.T) {
	n := some(fby("p", 0, v("a")), fby("q", 0, v("a")), fby("y", 0, v("a")), fby("a", 0, v("a")))
	n.In = decl("a q b")
	n.Locals = decl("q p q y a q a", on("q"))
	want := some(fby("p", 0, v("p")), def("y", v("p")))
	want.In = decl("a q b")
	want.Locals = decl("p q y q a", on("p"))
	n.Eqs[0].Right, n.Eqs[1].Right, n.Eqs[2].Right, n.Eqs[3].Right = v("a"), v("a"), v("a"), v("a")
	expectNode(t, n, want)
	n = some(fby("p", 0, v("a")), fby("q", 0, v("a")), fby("x", 0, v("a")))
	n.Locals = nil // q is not declared: p and q have no type
	want = some(fby("p", 0, v("a")), fby("x", 0, v("a")))
	want.Locals = nil
	expectNode(t, n, want)
}

// TestNodeNames is P25.2: a call without a reset has no variable there, even if there is a variable without a name.
func TestNodeNames(t *testing.T) {
	n := some(fby("p", 0, v("a")), fby("", 0, v("a")), call("x", "", v("")))
	n.Eqs[1].Left = []string{""}
	n.Locals = append(decl("p"), api.Decl{Type: api.TInt})
	want := some(fby("p", 0, v("a")), call("x", "", v("p")))
	want.Locals = decl("p")
	expectNode(t, n, want)
}

// TestAnyNode is P25.2 for any nodes. If several delays have the same variable, the result is not specified, but there is one.
func TestAnyNode(t *testing.T) {
	r := rand.New(rand.NewSource(4))
	shared := 0
	for range 20000 {
		n := anyNode(r)
		expectNewMemory(t, n, Node(n))
		n = distinct(n)
		before := deepCopy(n)
		is := Node(n)
		if !sameNode(is, refNode(n)) {
			t.Fatalf("the node\n%v becomes\n%v, want\n%v", n, is, refNode(n))
		}
		if !sameNode(n, before) {
			t.Fatalf("the argument\n%v has changed", before)
		}
		if len(is.Eqs) < len(n.Eqs) {
			shared++
		}
	}
	if shared < 500 {
		t.Errorf("%d nodes got less equations", shared)
	}
}
