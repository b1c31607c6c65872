package sched

import (
	"cmp"
	"math/rand"
	"reflect"
	"slices"
	"testing"

	"synchrony/api"
	"synchrony/norm"
)

func v(name string) api.Expr { return api.Expr{Kind: api.EVar, Name: name} }

func number(v int) api.Expr { return api.Expr{Kind: api.EConst, T: api.TInt, V: v} }

func with(kind int, args ...api.Expr) api.Expr { return api.Expr{Kind: kind, Args: args} }

// sum returns an expression that reads the variables.
func sum(names ...string) api.Expr {
	e := api.Expr{Kind: api.EOp, Op: api.OpAdd}
	for _, name := range names {
		e.Args = append(e.Args, v(name))
	}
	return e
}

func def(left string, right api.Expr, ck ...api.On) api.NEq {
	return api.NEq{Kind: api.NDef, Left: []string{left}, Right: right, Clock: ck}
}

func delay(left string, right api.Expr, ck ...api.On) api.NEq {
	return api.NEq{Kind: api.NDelay, Left: []string{left}, Right: right, Clock: ck}
}

func on(name string, tag int) api.On { return api.On{Name: name, T: api.TBool, Tag: tag} }

// deepCopy returns x in memory of its own.
func deepCopy[T any](x T) T { return deepCopyOf(reflect.ValueOf(x)).Interface().(T) }

func deepCopyOf(v reflect.Value) reflect.Value {
	c := reflect.New(v.Type()).Elem()
	c.Set(v)
	switch v.Kind() {
	case reflect.Struct:
		for i := range v.NumField() {
			c.Field(i).Set(deepCopyOf(v.Field(i)))
		}
	case reflect.Slice:
		c.SetZero()
		for i := range v.Len() {
			c = reflect.Append(c, deepCopyOf(v.Index(i)))
		}
	}
	return c
}

// stretch is the memory of a list, to its capacity.
type stretch struct{ from, to uintptr }

// memory returns the memory of all lists in v that have some.
func memory(v reflect.Value) []stretch {
	var l []stretch
	switch v.Kind() {
	case reflect.Struct:
		for i := range v.NumField() {
			l = append(l, memory(v.Field(i))...)
		}
	case reflect.Slice:
		if v.Cap() > 0 {
			l = append(l, stretch{v.Pointer(), v.Pointer() + uintptr(v.Cap())*v.Type().Elem().Size()})
		}
		for i := range v.Len() {
			l = append(l, memory(v.Index(i))...)
		}
	}
	return l
}

// expectNewMemory checks that no two lists of the argument and the result share memory.
func expectNewMemory(t *testing.T, argument, result any) {
	t.Helper()
	l := slices.Concat(memory(reflect.ValueOf(argument)), memory(reflect.ValueOf(result)))
	slices.SortFunc(l, func(a, b stretch) int { return cmp.Compare(a.from, b.from) })
	for i := 1; i < len(l); i++ {
		if l[i].from < l[i-1].to {
			t.Errorf("lists share memory")
			return
		}
	}
}

func sameNode(a, b api.NNode) bool {
	return norm.Same(api.NProgram{Nodes: []api.NNode{a}}, api.NProgram{Nodes: []api.NNode{b}})
}

func pick[T any](r *rand.Rand, l ...T) T { return l[r.Intn(len(l))] }

// times returns up to n results.
func times[T any](r *rand.Rand, n int, f func() T) []T {
	var l []T
	for range r.Intn(n + 1) {
		l = append(l, f())
	}
	return l
}

func shuffle[T any](r *rand.Rand, l []T) {
	r.Shuffle(len(l), func(i, k int) { l[i], l[k] = l[k], l[i] })
}

// permuted returns whether two lists of equations have the same ones.
func permuted(a, b []api.NEq) bool {
	same := func(x api.NEq) func(y api.NEq) bool {
		return func(y api.NEq) bool {
			return sameNode(api.NNode{Eqs: []api.NEq{x}}, api.NNode{Eqs: []api.NEq{y}})
		}
	}
	left := slices.Clone(b)
	for _, x := range a {
		i := slices.IndexFunc(left, same(x))
		if i < 0 {
			return false
		}
		left = slices.Delete(left, i, i+1)
	}
	return len(left) == 0
}
