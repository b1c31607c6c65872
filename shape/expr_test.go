package shape

import (
	"math"
	"math/rand"
	"reflect"
	"slices"
	"strings"
	"testing"

	"synchrony/api"
	"synchrony/expr"
)

// enumsOf has enumerations of different sizes: also without tags, with more than a program may have, and with equal tags and names.
func enumsOf() []api.Enum {
	return []api.Enum{
		{Name: "Light", Tags: []string{"Red", "Green"}},
		{Name: "None"},
		{Name: "One", Tags: []string{"Only"}},
		{Name: "Many", Tags: strings.Fields("a b c d e f g h i j k l m n o p q r s t")},
		{Name: "Light", Tags: []string{"Red", "Red", "if"}},
	}
}

func expectExpr(t *testing.T, enums []api.Enum, e api.Expr, want api.Errno) {
	t.Helper()
	if g := Expr(enums, e); g != want {
		t.Errorf("Expr of %v over %d enumerations = %d, want %d", e, len(enums), int(g), int(want))
	}
}

// sizeOf is the number of values of a type.
func sizeOf(enums []api.Enum, t int) int {
	switch {
	case t == api.TBool:
		return 2
	case t == api.TInt:
		return 65536
	case t >= api.TEnum && t-api.TEnum < len(enums):
		return len(enums[t-api.TEnum].Tags)
	}
	return 0
}

// errorOver is Expr by the chapter: the form of the whole comes first.
func errorOver(enums []api.Enum, e api.Expr) api.Errno {
	if err := expr.Check(e); err != api.OK {
		return err
	}
	for _, x := range listed(e) {
		size := sizeOf(enums, x.T)
		switch x.Kind {
		case api.EConst, api.EWhen:
			if size == 0 {
				return api.ErrType
			}
			if x.T != api.TInt && (x.V < 0 || x.V >= size) {
				return api.ErrRange
			}
		case api.EMerge:
			if size == 0 {
				return api.ErrType
			}
			if len(x.Args) != size {
				return api.ErrArity
			}
		}
	}
	return api.OK
}

// The tests of Expr are P7.1.

func TestExprExamples(t *testing.T) {
	light := []api.Enum{{Name: "Light", Tags: []string{"Red", "Green"}}}
	x := variable("x")
	expectExpr(t, light, constant(api.TEnum, 2), api.ErrRange)
	expectExpr(t, light, constant(api.TEnum, 1), api.OK)
	expectExpr(t, light, constant(api.TEnum+1, 0), api.ErrType)
	expectExpr(t, nil, constant(api.TEnum, 0), api.ErrType)
	expectExpr(t, nil, constant(api.TBool, 1), api.OK)
	expectExpr(t, nil, constant(api.TInt, -32768), api.OK)
	expectExpr(t, light, when(x, "c", api.TEnum, 2), api.ErrRange)
	expectExpr(t, light, when(x, "c", api.TEnum+1, 0), api.ErrType)
	expectExpr(t, light, merge("c", api.TEnum, x, x), api.OK)
	expectExpr(t, light, merge("c", api.TEnum, x), api.ErrArity)
	expectExpr(t, light, merge("c", api.TEnum, x, x, x), api.ErrArity)
	expectExpr(t, light, merge("c", api.TEnum+1, x, x), api.ErrType)
	expectExpr(t, light, merge("c", api.TBool, x, x), api.OK)
	expectExpr(t, enumsOf(), merge("c", api.TEnum+1, x), api.ErrType)
	expectExpr(t, enumsOf(), merge("c", api.TEnum+2, x), api.OK)
	expectExpr(t, enumsOf(), constant(api.TEnum+1, 0), api.ErrType)
	expectExpr(t, enumsOf(), constant(api.TEnum+3, 15), api.OK)
	expectExpr(t, enumsOf(), constant(api.TEnum+3, 16), api.ErrForm)
	expectExpr(t, enumsOf(), merge("c", api.TEnum+3, slices.Repeat([]api.Expr{x}, 16)...), api.ErrArity)
	expectExpr(t, enumsOf(), merge("c", api.TEnum+3, slices.Repeat([]api.Expr{x}, 20)...), api.ErrForm)
	expectExpr(t, enumsOf(), constant(math.MaxInt, 0), api.ErrType)
}

// TestExprOrder: the errors of layer 6 come first, then an expression before its arguments, and these from the left.
func TestExprOrder(t *testing.T) {
	enums := enumsOf()
	x, name, form := variable("x"), variable("if"), with(0)
	typed, ranged, arity := constant(api.TEnum+1, 0), constant(api.TEnum, 2), merge("c", api.TEnum, x)
	deep := x
	for range 40 {
		deep = with(api.EPre, deep)
	}
	for _, c := range []struct {
		e    api.Expr
		want api.Errno
	}{
		{with(api.EArrow, typed, name), api.ErrName},
		{with(api.EArrow, ranged, form), api.ErrForm},
		{with(api.EArrow, arity, deep), api.ErrLimit},
		{with(api.EArrow, typed, ranged), api.ErrType},
		{with(api.EArrow, ranged, typed), api.ErrRange},
		{with(api.EArrow, arity, typed), api.ErrArity},
		{with(api.EArrow, with(api.EPre, arity), typed), api.ErrArity},
		{with(api.EArrow, x, with(api.EPre, typed)), api.ErrType},
		{merge("c", api.TEnum, typed), api.ErrArity},
		{merge("c", api.TEnum+1, ranged), api.ErrType},
		{merge("c", api.TEnum+9, name), api.ErrName},
		{when(typed, "c", api.TEnum, 2), api.ErrRange},
		{when(ranged, "c", api.TEnum+1, 0), api.ErrType},
		{when(when(arity, "c", api.TEnum, 1), "c", api.TBool, 1), api.ErrArity},
		{merge("c", api.TBool, x, call("f", x, apply(api.OpNeg, ranged))), api.ErrRange},
	} {
		expectExpr(t, enums, c.e, c.want)
	}
}

// someExpr returns a tree that is well-formed, or nearly so.
func someExpr(r *rand.Rand, depth int) api.Expr {
	t, v, name := pick(r, 1, 1, 3, 3, 4, 5, 5, 6, 7, 7, 8), pick(r, 0, 0, 0, 0, 1, 1, 2, 3, 15), pick(r, "x", "y", "c")
	if depth == 1 {
		return pick(r, constant(t, v%2), constant(t, v), constant(api.TInt, v), variable(name), periodic("1(0)"), call("f"))
	}
	args := numbered(1+r.Intn(3), func(int) api.Expr { return someExpr(r, depth-1) })
	switch len(args) {
	case 1:
		return pick(r, with(api.EPre, args...), apply(api.OpNot, args...), when(args[0], name, t, v), when(args[0], name, t, v%2), merge(name, 5, args...))
	case 2:
		return pick(r, with(api.EFby, args...), apply(api.OpAdd, args...), merge(name, t, args...), merge(name, 1, args...), merge(name, 3, args...))
	}
	return pick(r, with(api.EIf, args...), call("f", args...), merge(name, 7, args...))
}

func TestExprSomeTrees(t *testing.T) {
	r := rand.New(rand.NewSource(7))
	enums, seen := enumsOf(), map[api.Errno]int{}
	for i := range 20000 {
		e := someExpr(r, 1+i%4)
		before := deepCopy(e)
		want := errorOver(enums, e)
		expectExpr(t, enums, e, want)
		seen[want]++
		if !reflect.DeepEqual(e, before) || !reflect.DeepEqual(enums, enumsOf()) {
			t.Fatalf("the arguments became %v, %v", e, enums)
		}
	}
	for _, e := range []api.Errno{api.OK, api.ErrType, api.ErrRange, api.ErrArity, api.ErrForm} {
		if seen[e] < 100 {
			t.Errorf("only %d trees with the error %d", seen[e], int(e))
		}
	}
}

// TestExprFields: each field of an expression alone, over several lists of enumerations.
func TestExprFields(t *testing.T) {
	for k := range len(enumsOf()) + 1 {
		enums := enumsOf()[:k]
		for kind := -1; kind <= 13; kind++ {
			for x := -1; x <= 9; x++ {
				for _, v := range []int{-32769, -32768, -1, 0, 1, 2, 3, 15, 16, 20, 32767, 32768} {
					for _, n := range []int{0, 1, 2, 3, 16, 20} {
						e := api.Expr{Kind: kind, T: x, V: v, Args: slices.Repeat([]api.Expr{variable("a")}, n)}
						if kind == api.EVar || kind == api.EWhen || kind == api.EMerge || kind == api.ECall {
							e.Name = "x"
						}
						expectExpr(t, enums, e, errorOver(enums, e))
					}
				}
			}
		}
	}
}

func TestExprOfLargeTrees(t *testing.T) {
	deep := variable("x")
	for range 1 << 16 {
		deep = with(api.EPre, deep)
	}
	expectExpr(t, nil, deep, api.ErrLimit)
	wide := constant(api.TEnum, 0)
	for range 40 {
		wide = with(api.EArrow, wide, wide)
	}
	expectExpr(t, nil, wide, api.ErrLimit)
	expectExpr(t, nil, call("f", slices.Repeat([]api.Expr{variable("x")}, 65)...), api.ErrLimit)
}
