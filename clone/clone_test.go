package clone

import (
	"cmp"
	"reflect"
	"slices"
	"testing"

	"synchrony/api"
)

// fill gives each number, name and list in v a value, down to the depth.
func fill(v reflect.Value, depth int) {
	switch v.Kind() {
	case reflect.Struct:
		for i := range v.NumField() {
			fill(v.Field(i), depth)
		}
	case reflect.Slice:
		if depth > 0 {
			v.Set(reflect.MakeSlice(v.Type(), 2, 3))
			for i := range v.Len() {
				fill(v.Index(i), depth-1)
			}
		}
	case reflect.Int:
		v.SetInt(int64(depth + 1))
	case reflect.String:
		v.SetString("x")
	}
}

// stretch is the memory of a list, to its capacity.
type stretch struct{ from, to uintptr }

// memory returns the memory of all lists in v that have some.
func memory(v reflect.Value) []stretch {
	var l []stretch
	switch v.Kind() {
	case reflect.Struct:
		for i := range v.NumField() {
			l = append(l, memory(v.Field(i))...)
		}
	case reflect.Slice:
		if v.Cap() > 0 {
			l = append(l, stretch{v.Pointer(), v.Pointer() + uintptr(v.Cap())*v.Type().Elem().Size()})
		}
		for i := range v.Len() {
			l = append(l, memory(v.Index(i))...)
		}
	}
	return l
}

// expectCopy checks that a copy is equal, and that no two lists share memory; this is rule 4 for all layers that make copies.
func expectCopy[A any](t *testing.T, f func(x A) A) {
	t.Helper()
	for depth := range 5 {
		var x A
		fill(reflect.ValueOf(&x).Elem(), depth)
		y := f(x)
		if !reflect.DeepEqual(x, y) {
			t.Errorf("the copy of %v is %v", x, y)
		}
		l := slices.Concat(memory(reflect.ValueOf(x)), memory(reflect.ValueOf(y)))
		slices.SortFunc(l, func(a, b stretch) int { return cmp.Compare(a.from, b.from) })
		for i := 1; i < len(l); i++ {
			if l[i].from < l[i-1].to {
				t.Errorf("%T: lists share memory", x)
				break
			}
		}
	}
}

func TestCopies(t *testing.T) {
	expectCopy(t, Enum)
	expectCopy(t, Decl)
	expectCopy(t, Expr)
	expectCopy(t, Eq)
	expectCopy(t, NEq)
	expectCopy(t, NNode)
	expectCopy(t, Stmt)
	expectCopy(t, Stmts)
	expectCopy(t, Class)
	expectCopy(t, Objects)
	expectCopy(t, Routine)
	expectCopy(t, Image)
}

func TestMap(t *testing.T) {
	if l := Map([]int{3, 1, 2}, func(x int) string { return "abcd"[x : x+1] }); !slices.Equal(l, []string{"d", "b", "c"}) {
		t.Errorf("the list is %v", l)
	}
	if l := Map(nil, func(x int) api.Enum { return api.Enum{} }); len(l) > 0 {
		t.Errorf("the list is %v", l)
	}
}
