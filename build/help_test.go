package build

import (
	"cmp"
	"reflect"
	"slices"
	"strings"
	"testing"

	"synchrony/api"
	"synchrony/norm"
	"synchrony/parse"
)

// read returns the program with a text.
func read(t *testing.T, s string) api.Program {
	t.Helper()
	p, at, e := parse.Program(s)
	if e != api.OK {
		t.Fatalf("%.60q.. is refused at %d (%.20q) with the error %d", s, at, s[at:], int(e))
	}
	return p
}

// must returns what a step of the compilation returns, which has no error.
func must[A, B any](t *testing.T, step func(x A) (B, api.Errno), x A) B {
	t.Helper()
	y, e := step(x)
	if e != api.OK {
		t.Fatalf("the error %d for %v", int(e), x)
	}
	return y
}

// normal returns the normal form of the program with a text.
func normal(t *testing.T, s string) api.NProgram {
	t.Helper()
	return must(t, norm.Program, read(t, s))
}

// all returns all choices of options.
func all() []Options {
	var l []Options
	for k := range 8 {
		l = append(l, Options{Simplify: k&1 > 0, Share: k&2 > 0, Fuse: k&4 > 0})
	}
	return l
}

// node returns the text of a node with an output.
func node(name, right string) string {
	return "node " + name + "(a: int; c: bool) returns (x: int) let x = " + right + "; tel "
}

// names returns the names of the nodes.
func names(n api.NProgram) string {
	var l []string
	for _, x := range n.Nodes {
		l = append(l, x.Name)
	}
	return strings.Join(l, " ")
}

// empty reports whether a result is the zero value, but for lists that are empty.
func empty(x any) bool {
	v := reflect.ValueOf(x)
	for i := range v.NumField() {
		if v.Field(i).Len() > 0 {
			return false
		}
	}
	return true
}

// deepCopy returns x in memory of its own.
func deepCopy[T any](x T) T { return deepCopyOf(reflect.ValueOf(x)).Interface().(T) }

func deepCopyOf(v reflect.Value) reflect.Value {
	c := reflect.New(v.Type()).Elem()
	c.Set(v)
	switch v.Kind() {
	case reflect.Struct:
		for i := range v.NumField() {
			c.Field(i).Set(deepCopyOf(v.Field(i)))
		}
	case reflect.Slice:
		c.SetZero()
		for i := range v.Len() {
			c = reflect.Append(c, deepCopyOf(v.Index(i)))
		}
	}
	return c
}

// extent is the memory of a list, to its capacity.
type extent struct{ from, to uintptr }

// memory returns the memory of all lists in v that have some.
func memory(v reflect.Value) []extent {
	var l []extent
	switch v.Kind() {
	case reflect.Struct:
		for i := range v.NumField() {
			l = append(l, memory(v.Field(i))...)
		}
	case reflect.Slice:
		if v.Cap() > 0 {
			l = append(l, extent{v.Pointer(), v.Pointer() + uintptr(v.Cap())*v.Type().Elem().Size()})
		}
		for i := range v.Len() {
			l = append(l, memory(v.Index(i))...)
		}
	}
	return l
}

// expectNewMemory checks that no two lists of the argument and the result share memory.
func expectNewMemory(t *testing.T, argument, result any) {
	t.Helper()
	l := slices.Concat(memory(reflect.ValueOf(argument)), memory(reflect.ValueOf(result)))
	slices.SortFunc(l, func(a, b extent) int { return cmp.Compare(a.from, b.from) })
	for i := 1; i < len(l); i++ {
		if l[i].from < l[i-1].to {
			t.Errorf("lists share memory")
			return
		}
	}
}
