package expr

import (
	"slices"
	"testing"

	"synchrony/api"
)

// small is if c then x else 0 fby x.
func small() api.Expr {
	return with(api.EIf, variable("c"), variable("x"), with(api.EFby, constant(api.TInt, 0), variable("x")))
}

// TestSize is P6.2.
func TestSize(t *testing.T) {
	x := variable("x")
	for _, c := range []struct {
		e           api.Expr
		size, depth int
	}{
		{api.Expr{}, 1, 1}, {x, 1, 1}, {api.Expr{Kind: 77, Args: []api.Expr{}}, 1, 1}, {apply(api.OpAdd, x, constant(api.TInt, 1)), 3, 2}, {small(), 6, 3},
		{with(0, x, chain(9, 7, x), x, chain(-1, 3, x)), 13, 8}, {with(api.EWord, repeated(with(99), 1000)...), 1001, 2},
	} {
		if s, d := Size(c.e), Depth(c.e); s != c.size || d != c.depth {
			t.Errorf("%v: Size %d, Depth %d, want %d, %d", c.e, s, d, c.size, c.depth)
		}
	}
}

// depths returns the greatest number of expressions that are nested in e, found level by level.
func depths(e api.Expr) int {
	n := 0
	for level := []api.Expr{e}; len(level) > 0; n++ {
		var next []api.Expr
		for _, x := range level {
			next = append(next, x.Args...)
		}
		level = next
	}
	return n
}

// TestCount is P6.2, for each kind and for what is none; so are Size and Depth here.
func TestCount(t *testing.T) {
	someTrees(func(e api.Expr) {
		l := listed(e)
		if Size(e) != len(l) || Depth(e) != depths(e) {
			t.Errorf("%v: Size %d, Depth %d, want %d, %d", e, Size(e), Depth(e), len(l), depths(e))
		}
		for kind := -2; kind < 16; kind++ {
			n := 0
			for _, x := range l {
				if x.Kind == kind {
					n++
				}
			}
			if g := Count(e, kind); g != n {
				t.Errorf("Count(%v, %d) = %d, want %d", e, kind, g, n)
			}
		}
	})
	if e := small(); Count(e, api.EVar) != 3 || Count(e, api.EIf) != 1 || Count(e, api.EPre) != 0 {
		t.Errorf("Count of %v", e)
	}
}

// TestSame is P6.3.
func TestSame(t *testing.T) {
	var last api.Expr
	someTrees(func(e api.Expr) {
		if !Same(e, deepCopy(e)) || !Same(e, e) {
			t.Errorf("%v is not Same as its copy", e)
		}
		if g := Same(e, last); g != equal(e, last) || g != Same(last, e) {
			t.Errorf("Same(%v, %v) = %v", e, last, g)
		}
		last = e
		for i := range listed(e) {
			for _, change := range []func(x *api.Expr){
				func(x *api.Expr) { x.Kind++ },
				func(x *api.Expr) { x.Op-- },
				func(x *api.Expr) { x.T++ },
				func(x *api.Expr) { x.V-- },
				func(x *api.Expr) { x.Name += "_" },
				func(x *api.Expr) { x.Args = append(x.Args, api.Expr{}) },
			} {
				other := deepCopy(e)
				change(place(&other, &i))
				if Same(e, other) || Same(other, e) {
					t.Errorf("%v is Same as %v", e, other)
				}
			}
		}
	})
}

// place returns the expression with the index in preorder.
func place(e *api.Expr, index *int) *api.Expr {
	n := *index
	return placeAfter(e, &n)
}

func placeAfter(e *api.Expr, n *int) *api.Expr {
	if *n == 0 {
		return e
	}
	*n--
	for i := range e.Args {
		if x := placeAfter(&e.Args[i], n); x != nil {
			return x
		}
	}
	return nil
}

func TestSameExamples(t *testing.T) {
	x, y := variable("x"), variable("y")
	if !Same(x, api.Expr{Kind: api.EVar, Name: "x", Args: []api.Expr{}}) || !Same(api.Expr{}, api.Expr{}) {
		t.Error("no arguments are not equal to none")
	}
	for _, c := range [][2]api.Expr{
		{x, y}, {with(api.EArrow, x, y), with(api.EArrow, y, x)}, {with(api.EArrow, x, y), with(api.EFby, x, y)}, {with(api.EPre, x), with(api.EPre)},
		{with(0, with(0, x), y), with(0, with(0, x, y))}, {with(api.EPre, x), x}, {with(0, x, x), with(0, x)},
	} {
		if Same(c[0], c[1]) || Same(c[1], c[0]) {
			t.Errorf("%v is Same as %v", c[0], c[1])
		}
	}
}

// named returns the names of the variables in the list, each one once.
func named(l []api.Expr) []string {
	var names []string
	for _, x := range l {
		if slices.Contains([]int{api.EVar, api.EWhen, api.EMerge}, x.Kind) && !slices.Contains(names, x.Name) {
			names = append(names, x.Name)
		}
	}
	return names
}

// withoutDelayed returns e without the arguments that it does not need at the same instant.
func withoutDelayed(e api.Expr) api.Expr {
	args := e.Args
	if e.Kind == api.EPre || e.Kind == api.EFby && len(args) == 0 {
		args = nil
	} else if e.Kind == api.EFby {
		args = args[:1]
	}
	e.Args = nil
	for _, a := range args {
		e.Args = append(e.Args, withoutDelayed(a))
	}
	return e
}

func expectNames(t *testing.T, e api.Expr, names, instant []string) {
	t.Helper()
	if g := Names(e); !slices.Equal(g, names) {
		t.Errorf("Names(%v) = %v, want %v", e, g, names)
	}
	if g := Instant(e); !slices.Equal(g, instant) {
		t.Errorf("Instant(%v) = %v, want %v", e, g, instant)
	}
}

// TestNames is P6.4 and, for the names in Instant, P6.7.
func TestNames(t *testing.T) {
	someTrees(func(e api.Expr) {
		before := deepCopy(e)
		expectNames(t, e, named(listed(e)), named(listed(withoutDelayed(e))))
		all := Names(e)
		for _, name := range Instant(e) {
			if !slices.Contains(all, name) {
				t.Errorf("%s is in Instant, but not in Names of %v", name, e)
			}
		}
		if !equal(e, before) {
			t.Errorf("%v became %v", before, e)
		}
	})
}

func TestNamesExamples(t *testing.T) {
	x, y, z := variable("x"), variable("y"), variable("z")
	pre := func(e api.Expr) api.Expr { return with(api.EPre, e) }
	for _, c := range []struct {
		e              api.Expr
		names, instant []string
	}{
		{constant(api.TInt, 3), nil, nil},
		{periodic("(1)"), nil, nil},
		{api.Expr{Kind: api.EState, Name: "m"}, nil, nil},
		{small(), []string{"c", "x"}, []string{"c", "x"}},
		{merge("c", api.TBool, x, apply(api.OpAdd, y, x)), []string{"c", "x", "y"}, []string{"c", "x", "y"}},
		{with(api.EFby, x, apply(api.OpAdd, pre(y), z)), []string{"x", "y", "z"}, []string{"x"}},
		{with(api.EFby, x, y, z), []string{"x", "y", "z"}, []string{"x"}},
		{with(api.EFby), nil, nil},
		{with(api.EPre, x, y), []string{"x", "y"}, nil},
		{with(api.EPre, with(api.EFby, x, y)), []string{"x", "y"}, nil},
		{with(api.EFby, with(api.EFby, x, y), z), []string{"x", "y", "z"}, []string{"x"}},
		{with(api.EArrow, x, y), []string{"x", "y"}, []string{"x", "y"}},
		{apply(api.OpAdd, pre(x), apply(api.OpSub, y, x)), []string{"x", "y"}, []string{"y", "x"}},
		{when(x, "c", 1), []string{"c", "x"}, []string{"c", "x"}},
		{pre(when(merge("d", api.TBool, x, y), "c", 1)), []string{"c", "d", "x", "y"}, nil},
		{call("f", x, call("g", pre(y), z)), []string{"x", "y", "z"}, []string{"x", "z"}},
		{with(api.EArrow, variable(""), merge("", 0)), []string{""}, []string{""}},
		{with(77, variable("if"), x), []string{"if", "x"}, []string{"if", "x"}},
	} {
		expectNames(t, c.e, c.names, c.instant)
	}
}

func TestNamesOfManyVariables(t *testing.T) {
	e := with(api.EArrow)
	var want []string
	for i := range 100000 {
		name := "x" + string(rune('A'+i%26)) + string(rune(0x4e00+i/26))
		e.Args = append(e.Args, variable(name))
		want = append(want, name)
	}
	e.Args = append(e.Args, e.Args...)
	expectNames(t, e, want, want)
}

// TestStateless is P6.4.
func TestStateless(t *testing.T) {
	state := []int{api.EPre, api.EArrow, api.EFby, api.ECall, api.EWord}
	someTrees(func(e api.Expr) {
		want := !slices.ContainsFunc(listed(e), func(x api.Expr) bool { return slices.Contains(state, x.Kind) })
		if Stateless(e) != want {
			t.Errorf("Stateless(%v) = %v", e, !want)
		}
	})
	for kind := -1; kind < 15; kind++ {
		want := !slices.Contains(state, kind)
		if Stateless(with(kind)) != want || Stateless(with(api.EIf, variable("x"), with(api.EWhen, with(kind)))) != want {
			t.Errorf("Stateless of the kind %d is %v", kind, !want)
		}
	}
}
