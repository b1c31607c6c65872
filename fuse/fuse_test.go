package fuse

import (
	"reflect"
	"slices"
	"strconv"
	"testing"

	"synchrony/api"
	"synchrony/obj"
)

// TestJoin is P24.1 to P24.3: the examples of the chapter, and what a case must be like to be combined.
func TestJoin(t *testing.T) {
	x, y, z := let("x", 1), let("y", 2), let("z", 3)
	for i, c := range []struct{ l, want []api.Stmt }{
		{nil, nil},
		{seq(x, y, x), seq(x, y, x)},
		{seq(by("c", nil, seq(x)), by("c", seq(y), seq(let("y", 3)))), seq(by("c", seq(y), seq(x, let("y", 3))))},
		// The cases are not neighbours.
		{seq(by("c", nil, seq(x)), z, by("c", seq(y), nil)), seq(by("c", nil, seq(x)), z, by("c", seq(y), nil))},
		{seq(by("c", nil, seq(x)), by("d", seq(z), nil), by("c", seq(y), nil)), seq(by("c", nil, seq(x)), by("d", seq(z), nil), by("c", seq(y), nil))},
		// They are, because what is between them is left out.
		{seq(by("c", nil, seq(x)), by("d", nil, nil), by("d"), by("c", nil, seq(by("d", nil))), by("c", seq(y), nil)), seq(by("c", seq(y), seq(x)))},
		// The first one assigns the variable: by an assignment, by a call, in a branch.
		{seq(by("c", nil, seq(let("c", 1))), by("c", seq(y), nil)), seq(by("c", nil, seq(let("c", 1))), by("c", seq(y), nil))},
		{seq(by("c", seq(call("i", "x c")), nil), by("c", seq(y), nil)), seq(by("c", seq(call("i", "x c")), nil), by("c", seq(y), nil))},
		{seq(by("c", seq(by("d", seq(x), seq(let("c", 1)))), nil), by("c", seq(y), nil)), seq(by("c", seq(by("d", seq(x), seq(let("c", 1)))), nil), by("c", seq(y), nil))},
		{seq(by("c", seq(by("c", seq(let("c", 1)))), nil), by("c", seq(y), nil)), seq(by("c", seq(by("c", seq(let("c", 1)))), nil), by("c", seq(y), nil))},
		// These do not assign it: another name, a memory, an instance, an argument.
		{seq(by("c", seq(let("d", 1), store("c", x.Right), reset("c"), call("c", "d", v("c"))), nil), by("c", seq(y), nil)), seq(by("c", seq(let("d", 1), store("c", x.Right), reset("c"), call("c", "d", v("c")), y), nil))},
		// The second one may assign it, but a third one is not combined with both.
		{seq(by("c", seq(x), nil), by("c", seq(let("c", 1)), nil), by("c", seq(y), nil)), seq(by("c", seq(x, let("c", 1)), nil), by("c", seq(y), nil))},
		// In front of the last one the variable may be assigned.
		{seq(by("c", seq(let("c", 1)), nil), by("c", seq(x), nil), by("c", seq(y), nil)), seq(by("c", seq(let("c", 1)), nil), by("c", seq(x, y), nil))},
		{seq(let("c", 1), by("c", seq(x), nil), by("c", seq(y), nil)), seq(let("c", 1), by("c", seq(x, y), nil))},
		// Another name, another type, another number of branches.
		{seq(by("c", seq(x), nil), by("d", seq(y), nil)), seq(by("c", seq(x), nil), by("d", seq(y), nil))},
		{seq(by("c", seq(x), nil), typed(api.TEnum, by("c", seq(y), nil))), seq(by("c", seq(x), nil), typed(api.TEnum, by("c", seq(y), nil)))},
		{seq(by("c", seq(x), nil), by("c", seq(y))), seq(by("c", seq(x), nil), by("c", seq(y)))},
		{seq(typed(9, by("c", nil, nil, seq(x))), typed(9, by("c", seq(y), nil, nil))), seq(typed(9, by("c", seq(y), nil, seq(x))))},
		// Empty cases, also those that become empty, are left out.
		{seq(by("c")), nil},
		{seq(by("c", nil, nil), x, by("c", nil)), seq(x)},
		{seq(by("c", seq(by("d", nil, nil)), seq(by("d", seq(by("c", nil)))))), nil},
		{seq(by("c", seq(by("d", nil, nil), x, by("d")), nil)), seq(by("c", seq(x), nil))},
		// Branches are joined, and the ends of branches that meet.
		{seq(by("c", seq(by("d", seq(x), nil), by("d", nil, seq(y))), nil)), seq(by("c", seq(by("d", seq(x), seq(y))), nil))},
		{seq(by("c", seq(z, by("d", seq(x), nil)), nil), by("c", seq(by("d", nil, seq(y)), z), seq(x))), seq(by("c", seq(z, by("d", seq(x), seq(y)), z), seq(x)))},
		{seq(by("c", seq(by("d", seq(by("e", seq(x), nil)), nil)), nil), by("c", seq(by("d", seq(by("e", seq(y), seq(z))), nil)), nil)), seq(by("c", seq(by("d", seq(by("e", seq(x, y), seq(z))), nil)), nil))},
		{seq(by("c", seq(by("d", seq(let("d", 1)), nil)), nil), by("c", seq(by("d", seq(y), nil)), nil)), seq(by("c", seq(by("d", seq(let("d", 1)), nil), by("d", seq(y), nil)), nil))},
		{seq(by("c", nil, seq(x)), by("c", seq(by("d", nil)), nil), by("c", nil, seq(y))), seq(by("c", nil, seq(x, y)))},
		// The other fields of a case stay.
		{seq(api.Stmt{Kind: api.SCase, Name: "c", Right: x.Right, Outs: []string{"c"}, Args: []api.Expr{v("a")}, Branches: [][]api.Stmt{seq(x)}}, api.Stmt{Kind: api.SCase, Name: "c", Branches: [][]api.Stmt{seq(y)}}),
			seq(api.Stmt{Kind: api.SCase, Name: "c", Right: x.Right, Outs: []string{"c"}, Args: []api.Expr{v("a")}, Branches: [][]api.Stmt{seq(x, y)}})},
		// A statement of another kind is no case, whatever its fields are.
		{seq(api.Stmt{Kind: 7, Name: "c", T: api.TBool, Branches: [][]api.Stmt{seq(by("d", nil)), nil}}, by("c", seq(x), nil), api.Stmt{Kind: 7, Name: "c", T: api.TBool, Branches: [][]api.Stmt{nil, nil}}),
			seq(api.Stmt{Kind: 7, Name: "c", T: api.TBool, Branches: [][]api.Stmt{seq(by("d", nil)), nil}}, by("c", seq(x), nil), api.Stmt{Kind: 7, Name: "c", T: api.TBool, Branches: [][]api.Stmt{nil, nil}})},
		{seq(by("c", seq(api.Stmt{Kind: 0, Name: "c", Outs: []string{"c"}}), nil), by("c", seq(y), nil)), seq(by("c", seq(api.Stmt{Kind: 0, Name: "c", Outs: []string{"c"}}, y), nil))},
		{seq(by("c", seq(api.Stmt{Kind: api.SStore, Name: "c", Outs: []string{"c"}, Branches: [][]api.Stmt{seq(let("c", 1))}}), nil), by("c", seq(y), nil)),
			seq(by("c", seq(api.Stmt{Kind: api.SStore, Name: "c", Outs: []string{"c"}, Branches: [][]api.Stmt{seq(let("c", 1))}}, y), nil))},
	} {
		expectJoin(t, i, c.l, c.want)
	}
}

// TestCases is the chapter's section Cases.
func TestCases(t *testing.T) {
	x := let("x", 1)
	first := seq(by("c", nil, seq(x)), by("c", seq(let("y", 2)), seq(let("y", 3))))
	for i, c := range []struct {
		l    []api.Stmt
		want int
	}{
		{nil, 0},
		{seq(x, store("m", number(1)), call("i", "x"), reset("i"), api.Stmt{}), 0},
		{first, 2},
		{Join(first), 1},
		{seq(by("c")), 1},
		{seq(by("c", nil, seq(by("d", nil, nil))), x, by("c", nil, nil)), 3},
		{seq(by("c", seq(x, by("d", seq(by("c"), by("c")), seq(x, by("e")))), seq(by("d")))), 6},
	} {
		if n := Cases(c.l); n != c.want {
			t.Errorf("%d: there are %d cases, want %d", i, n, c.want)
		}
	}
}

// TestLarge is the section Terms of DOC.md: lists that are long or nested deeply.
func TestLarge(t *testing.T) {
	const large = 1 << 16
	var long, want []api.Stmt
	for i := range 4 * large {
		long = append(long, by("c", seq(let("x", i)), nil))
		want = append(want, let("x", i))
	}
	if l := Join(long); !same(l, seq(by("c", want, nil))) || Cases(l) != 1 || Cases(long) != 4*large {
		t.Errorf("%d cases become %d", Cases(long), Cases(l))
	}
	// On each level there is a second case, by the same variable or by others.
	for _, names := range []int{1, large} {
		same, deep, empty := seq(let("x", 1)), seq(let("x", 1)), []api.Stmt(nil)
		for i := range large - 1 {
			name := "c" + strconv.Itoa(i%names)
			same = seq(by(name, same, nil), by(name, nil, seq(let("y", i))))
			deep = seq(by("c", seq(let("y", i)), nil), by("c", deep, nil))
			empty = seq(by(name, empty, nil), by(name, nil, nil))
		}
		if l := Join(same); Cases(l) != large-1 || len(l) != 1 || len(l[0].Branches[1]) != 1 {
			t.Errorf("%d cases become %d", Cases(same), Cases(l))
		}
		if l := Join(deep); Cases(l) != large-1 || len(l) != 1 || len(l[0].Branches[0]) != 2 {
			t.Errorf("%d cases become %d", Cases(deep), Cases(l))
		}
		if l := Join(empty); len(l) > 0 || Cases(empty) != 2*large-2 {
			t.Errorf("of %d cases without statements %d are left", Cases(empty), Cases(l))
		}
	}
	// The same depth in two neighbours, with a long list at the end of both.
	a, b := long[:large], long[large:2*large]
	for range 2000 {
		a, b = seq(by("d", a, nil), by("d", nil, seq(let("z", 1)))), seq(by("d", b, nil), by("d", seq(let("z", 1)), nil))
	}
	if l := Join(slices.Concat(a, b)); Cases(l) != 2001 {
		t.Errorf("%d cases are left", Cases(l))
	}
}

// TestProgramErrors is the chapter's section Errors: those of obj.Check.
func TestProgramErrors(t *testing.T) {
	right := api.Class{Name: "f", In: []api.Decl{{Name: "c", Type: api.TBool}}, Out: []api.Decl{{Name: "x", Type: api.TInt}}, Mems: []api.Mem{{Name: "m", Type: api.TInt}}, Step: seq(by("c", seq(let("x", 1)), seq(let("x", 2))))}
	with := func(change func(c *api.Class)) api.Objects {
		c := deepCopy(right)
		c.Name = "g"
		change(&c)
		return api.Objects{Classes: []api.Class{right, c}}
	}
	for i, x := range []struct {
		o api.Objects
		e api.Errno
	}{
		{api.Objects{}, api.OK},
		{with(func(c *api.Class) {}), api.OK},
		{with(func(c *api.Class) { c.Step = append(c.Step, by("c", nil, nil)) }), api.OK},
		{with(func(c *api.Class) { c.Step = append(c.Step, by("c", nil)) }), api.ErrArity}, // though it would be left out
		{with(func(c *api.Class) { c.Step = append(c.Step, by("d", nil, nil)) }), api.ErrName},
		{with(func(c *api.Class) { c.Step = append(c.Step, typed(api.TEnum, by("c", nil, nil))) }), api.ErrType},
		{with(func(c *api.Class) { c.Step = append(c.Step, let("x", 1)) }), api.ErrTwice},
		{with(func(c *api.Class) { c.Step = nil }), api.ErrOrder},
		{with(func(c *api.Class) { c.Step[0].Outs = []string{"x"} }), api.ErrForm},
		{with(func(c *api.Class) { c.Name = "f" }), api.ErrTwice},
		// What would be right behind both cases if they were combined.
		{with(func(c *api.Class) {
			c.Step = seq(by("c", seq(let("x", 1)), nil), by("c", nil, seq(let("x", 1))))
		}), api.ErrOrder},
		{api.Objects{Enums: make([]api.Enum, 1)}, api.ErrForm},
	} {
		if e := obj.Check(x.o); e != x.e {
			t.Errorf("%d: obj.Check returns %d, want %d", i, int(e), int(x.e))
		}
		if o, e := Program(x.o); e != x.e || e != api.OK && !reflect.DeepEqual(o, api.Objects{}) {
			t.Errorf("%d: the error is %d, want %d; the object code is %v", i, int(e), int(x.e), o)
		}
	}
}
