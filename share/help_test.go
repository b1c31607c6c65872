package share

import (
	"cmp"
	"reflect"
	"slices"
	"strings"
	"testing"

	"synchrony/api"
	"synchrony/norm"
	"synchrony/parse"
)

func v(name string) api.Expr { return api.Expr{Kind: api.EVar, Name: name} }

func number(v int) api.Expr { return api.Expr{Kind: api.EConst, T: api.TInt, V: v} }

func with(kind int, args ...api.Expr) api.Expr { return api.Expr{Kind: kind, Args: args} }

func when(name string, e api.Expr) api.Expr {
	return api.Expr{Kind: api.EWhen, Name: name, T: api.TBool, V: 1, Args: []api.Expr{e}}
}

func merge(name string, args ...api.Expr) api.Expr {
	return api.Expr{Kind: api.EMerge, Name: name, T: api.TBool, Args: args}
}

func on(name string) api.On { return api.On{Name: name, T: api.TBool, Tag: 1} }

func fby(left string, init int, right api.Expr, ck ...api.On) api.NEq {
	return api.NEq{Kind: api.NDelay, Left: strings.Fields(left), Init: init, Right: right, Clock: ck}
}

func def(left string, right api.Expr, ck ...api.On) api.NEq {
	return api.NEq{Kind: api.NDef, Left: strings.Fields(left), Right: right, Clock: ck}
}

func call(left, every string, args ...api.Expr) api.NEq {
	return api.NEq{Kind: api.NCall, Left: strings.Fields(left), Node: "g", Every: every, Args: args}
}

// decl declares variables of the type int.
func decl(names string, ck ...api.On) []api.Decl {
	var l []api.Decl
	for _, name := range strings.Fields(names) {
		l = append(l, api.Decl{Name: name, Type: api.TInt, Clock: ck})
	}
	return l
}

// some is a node whose outputs are x and y, and whose local variables are p, q and r.
func some(eqs ...api.NEq) api.NNode {
	return api.NNode{Name: "f", In: decl("a b"), Out: decl("x y"), Locals: decl("p q r"), Eqs: eqs}
}

func sameNode(a, b api.NNode) bool {
	return norm.Same(api.NProgram{Nodes: []api.NNode{a}}, api.NProgram{Nodes: []api.NNode{b}})
}

func sameParts(a, b [][]int) bool { return slices.EqualFunc(a, b, slices.Equal) }

// read returns the normal form of the program with this text.
func read(t *testing.T, s string) api.NProgram {
	t.Helper()
	p, at, e := parse.Program(s)
	if e != api.OK {
		t.Fatalf("%.60q.. is refused at %d (%.20q) with the error %d", s, at, s[at:], int(e))
	}
	return must(t, norm.Program, p)
}

// must returns what a step of the compilation returns, which has no error.
func must[A, B any](t *testing.T, step func(x A) (B, api.Errno), x A) B {
	t.Helper()
	y, e := step(x)
	if e != api.OK {
		t.Fatalf("the error %d for %v", int(e), x)
	}
	return y
}

// deepCopy returns x in memory of its own.
func deepCopy[T any](x T) T { return deepCopyOf(reflect.ValueOf(x)).Interface().(T) }

func deepCopyOf(v reflect.Value) reflect.Value {
	c := reflect.New(v.Type()).Elem()
	c.Set(v)
	switch v.Kind() {
	case reflect.Struct:
		for i := range v.NumField() {
			c.Field(i).Set(deepCopyOf(v.Field(i)))
		}
	case reflect.Slice:
		c.SetZero()
		for i := range v.Len() {
			c = reflect.Append(c, deepCopyOf(v.Index(i)))
		}
	}
	return c
}

// extent is the memory of a list, to its capacity.
type extent struct{ from, to uintptr }

// memory returns the memory of all lists in v that have some.
func memory(v reflect.Value) []extent {
	var l []extent
	switch v.Kind() {
	case reflect.Struct:
		for i := range v.NumField() {
			l = append(l, memory(v.Field(i))...)
		}
	case reflect.Slice:
		if v.Cap() > 0 {
			l = append(l, extent{v.Pointer(), v.Pointer() + uintptr(v.Cap())*v.Type().Elem().Size()})
		}
		for i := range v.Len() {
			l = append(l, memory(v.Index(i))...)
		}
	}
	return l
}

// expectNewMemory checks that no two lists of the argument and the result share memory.
func expectNewMemory(t *testing.T, argument, result any) {
	t.Helper()
	l := slices.Concat(memory(reflect.ValueOf(argument)), memory(reflect.ValueOf(result)))
	slices.SortFunc(l, func(a, b extent) int { return cmp.Compare(a.from, b.from) })
	for i := 1; i < len(l); i++ {
		if l[i].from < l[i-1].to {
			t.Errorf("lists share memory")
			return
		}
	}
}
