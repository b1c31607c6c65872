package simp

import (
	"math/rand"
	"testing"

	"synchrony/api"
)

func pick[T any](r *rand.Rand, l ...T) T { return l[r.Intn(len(l))] }

// times returns up to n results.
func times[T any](r *rand.Rand, n int, f func() T) []T {
	var l []T
	for range r.Intn(n + 1) {
		l = append(l, f())
	}
	return l
}

// anyNode returns a node with few names, in which anything can be wrong.
func anyNode(r *rand.Rand) api.NNode {
	name := func() string { return pick(r, "a", "b", "c", "d", "e", "f", "g", "h", "") }
	on := func() api.On { return api.On{Name: name(), T: api.TBool, Tag: r.Intn(2)} }
	clock := func() []api.On {
		if r.Intn(2) == 0 {
			return nil
		}
		return times(r, 2, on)
	}
	decl := func() api.Decl { return api.Decl{Name: name(), Type: r.Intn(4), Clock: clock()} }
	right := func() api.Expr {
		switch r.Intn(6) {
		case 0, 1:
			return v(name())
		case 2:
			return constant(api.TBool, r.Intn(2))
		case 3:
			return op(api.OpAdd, v(pick(r, "a", "b")), number(1))
		}
		return someTree(r, r.Intn(4))
	}
	equation := func() api.NEq {
		x := api.NEq{Kind: pick(r, api.NDef, api.NDef, api.NDef, api.NDelay, api.NCall, api.NWord, r.Intn(7)), Left: []string{name()}, Right: right(), Clock: clock()}
		if r.Intn(6) == 0 {
			x.Left = times(r, 3, name)
		}
		if x.Kind != api.NDef || r.Intn(9) == 0 {
			x.Init, x.Every, x.Node, x.Args = r.Intn(2), pick(r, name(), ""), pick(r, "m", "n"), times(r, 2, right)
		}
		if x.Kind == api.NWord && r.Intn(4) > 0 {
			x.Right, x.Args = api.Expr{}, nil
		}
		return x
	}
	return api.NNode{Name: name(), In: times(r, 2, decl), Out: times(r, 2, decl), Locals: times(r, 6, decl), Eqs: times(r, 9, equation)}
}

// TestAny is P20.2 to P20.5, and P20.7 for ports and numbers of equations, for any nodes.
func TestAny(t *testing.T) {
	changes := map[string]int{}
	r := rand.New(rand.NewSource(3))
	for range 15000 {
		n := anyNode(r)
		before := deepCopy(n)
		for _, f := range functions() {
			is, want := f.f(n), f.ref(n)
			if !sameNode(is, want) {
				t.Fatalf("%s of\n%v\nis\n%v\nwant\n%v", f.name, n, is, want)
			}
			if !sameNode(n, before) {
				t.Fatalf("%s changed\n%v", f.name, before)
			}
			expectNewMemory(t, f.name, n, is)
			if !sameNode(api.NNode{Name: is.Name, In: is.In, Out: is.Out}, api.NNode{Name: n.Name, In: n.In, Out: n.Out}) || len(is.Eqs) > len(n.Eqs) {
				t.Fatalf("%s of\n%v\nis\n%v", f.name, n, is)
			}
			if !sameNode(is, n) {
				changes[f.name]++
			}
		}
		if t.Failed() {
			return
		}
	}
	for _, f := range functions() {
		if changes[f.name] < 400 {
			t.Errorf("the changes are %v", changes)
		}
	}
}
