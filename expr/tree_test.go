package expr

import (
	"slices"
	"testing"

	"synchrony/api"
)

// renamed returns e with the names changed in a copy, expression by expression.
func renamed(e api.Expr, from, to string) api.Expr {
	e = deepCopy(e)
	for i := range listed(e) {
		x := place(&e, &i)
		if slices.Contains([]int{api.EVar, api.EWhen, api.EMerge}, x.Kind) && x.Name == from {
			x.Name = to
		}
	}
	return e
}

// TestRename is P6.5.
func TestRename(t *testing.T) {
	someTrees(func(e api.Expr) {
		before := deepCopy(e)
		for _, c := range [][2]string{{"x", "y"}, {"x", "x"}, {"x", "new"}, {"", "x"}, {"x", ""}, {"(1)", "z"}, {"other", "x"}, {"if", "fi"}} {
			g := Rename(e, c[0], c[1])
			if !equal(g, renamed(before, c[0], c[1])) {
				t.Errorf("Rename(%v, %q, %q) = %v", before, c[0], c[1], g)
			}
			spoil(&g)
			if !equal(e, before) {
				t.Fatalf("Rename shares memory with %v", before)
			}
		}
	})
}

func TestRenameExamples(t *testing.T) {
	kinds := []int{api.EVar, api.EWhen, api.EMerge}
	for kind := -1; kind < 15; kind++ {
		want := "x"
		if slices.Contains(kinds, kind) {
			want = "y"
		}
		e := Rename(api.Expr{Kind: kind, Name: "x", Args: []api.Expr{variable("x"), variable("z"), variable("xx")}}, "x", "y")
		if e.Name != want || e.Args[0].Name != "y" || e.Args[1].Name != "z" || e.Args[2].Name != "xx" {
			t.Errorf("of the kind %d: %v", kind, e)
		}
	}
}

// TestRenameAndBack is P6.7.
func TestRenameAndBack(t *testing.T) {
	someTrees(func(e api.Expr) {
		for _, from := range []string{"x", "", "if", "absent"} {
			there := Rename(e, from, "new")
			if Size(there) != Size(e) || Depth(there) != Depth(e) {
				t.Errorf("Rename of %v changes Size or Depth", e)
			}
			if back := Rename(there, "new", from); !equal(back, e) {
				t.Errorf("%v is renamed and back to %v", e, back)
			}
		}
	})
}

// TestEach is P6.6 and, for the number, P6.7.
func TestEach(t *testing.T) {
	someTrees(func(e api.Expr) {
		want := listed(e)
		each := Each(e)
		for range 2 {
			if g := slices.Collect(each); !slices.EqualFunc(g, want, equal) || len(g) != Size(e) {
				t.Errorf("Each(%v) = %v", e, g)
			}
		}
	})
	var kinds []int
	for x := range Each(small()) {
		kinds = append(kinds, x.Kind)
	}
	if !slices.Equal(kinds, []int{api.EIf, api.EVar, api.EVar, api.EFby, api.EConst, api.EVar}) {
		t.Errorf("Each of if c then x else 0 fby x: %v", kinds)
	}
}

// TestEachStops: an iterator that goes on after the caller has stopped would call the function again.
func TestEachStops(t *testing.T) {
	e := with(0, small(), with(0, small(), small()), variable("x"))
	for most := 1; most <= Size(e); most++ {
		n := 0
		Each(e)(func(api.Expr) bool {
			n++
			return n < most
		})
		if n != most {
			t.Errorf("stopped after %d, but %d came", most, n)
		}
	}
}

// TestEachKeepsNothing: the expressions that come do not depend on what is done with others, or with e.
func TestEachKeepsNothing(t *testing.T) {
	someTrees(func(e api.Expr) {
		before := deepCopy(e)
		want := listed(before)
		each := Each(e)
		i := 0
		for x := range each {
			if i >= len(want) || !equal(x, want[i]) {
				t.Fatalf("Each(%v): %v comes with the index %d", before, x, i)
			}
			spoil(&x)
			i++
		}
		if !equal(e, before) {
			t.Fatalf("Each shares memory with %v", before)
		}
		spoil(&e)
		if g := slices.Collect(each); !slices.EqualFunc(g, want, equal) {
			t.Fatalf("Each keeps %v", before)
		}
	})
}

// TestDeepTrees has as many nested parts as the document permits.
func TestDeepTrees(t *testing.T) {
	const n = 1 << 16
	e := chain(api.EPre, n, variable("x"))
	if Size(e) != n || Depth(e) != n || Count(e, api.EPre) != n-1 || Check(e) != api.ErrLimit || Stateless(e) || !Stateless(chain(api.EIf, n, variable("x"))) {
		t.Error("Size, Depth, Count, Check, Stateless")
	}
	expectNames(t, e, []string{"x"}, nil)
	other := Rename(e, "x", "y")
	if Same(e, other) || !Same(e, Rename(other, "y", "x")) {
		t.Error("Same, Rename")
	}
	i := 0
	for x := range Each(e) {
		i++
		if (x.Kind == api.EVar) != (i == n) {
			t.Fatalf("Each: kind %d with the number %d", x.Kind, i)
		}
	}
	if i != n {
		t.Errorf("Each: %d", i)
	}
}

// TestEachOfLargeTrees has more expressions in all copies than are made, and so many that only the first ones can come.
func TestEachOfLargeTrees(t *testing.T) {
	e := variable("x")
	for range 60 {
		e = with(api.EArrow, e, e)
	}
	n := 0
	for x := range Each(e) {
		if n == 1000 {
			break
		}
		if n < 61 && (x.Kind == api.EVar) != (n == 60) {
			t.Fatalf("Each: kind %d with the number %d", x.Kind, n)
		}
		n++
	}
}
