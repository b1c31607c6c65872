package fuse

import (
	"cmp"
	"math/rand"
	"reflect"
	"slices"
	"strings"
	"testing"

	"synchrony/api"
	"synchrony/obj"
)

func v(name string) api.Expr { return api.Expr{Kind: api.EVar, Name: name} }

func state(name string) api.Expr { return api.Expr{Kind: api.EState, Name: name} }

func constant(t, v int) api.Expr { return api.Expr{Kind: api.EConst, T: t, V: v} }

func number(v int) api.Expr { return constant(api.TInt, v) }

func set(name string, e api.Expr) api.Stmt {
	return api.Stmt{Kind: api.SAssign, Name: name, Right: e}
}

// let assigns a number.
func let(name string, v int) api.Stmt { return set(name, number(v)) }

func store(name string, e api.Expr) api.Stmt {
	return api.Stmt{Kind: api.SStore, Name: name, Right: e}
}

func call(name, outs string, args ...api.Expr) api.Stmt {
	return api.Stmt{Kind: api.SCall, Name: name, Outs: strings.Fields(outs), Args: args}
}

func reset(name string) api.Stmt { return api.Stmt{Kind: api.SReset, Name: name} }

func seq(l ...api.Stmt) []api.Stmt { return l }

// by is a case by a variable of the type bool.
func by(name string, branches ...[]api.Stmt) api.Stmt {
	return api.Stmt{Kind: api.SCase, Name: name, T: api.TBool, Branches: branches}
}

// typed is a case by a variable of another type.
func typed(t int, s api.Stmt) api.Stmt {
	s.T = t
	return s
}

func sameClass(a, b api.Class) bool {
	return obj.Same(api.Objects{Classes: []api.Class{a}}, api.Objects{Classes: []api.Class{b}})
}

func same(a, b []api.Stmt) bool { return sameClass(api.Class{Step: a}, api.Class{Step: b}) }

// expectJoin checks what a list becomes, and that what it becomes stays.
func expectJoin(t *testing.T, what any, l, want []api.Stmt) {
	t.Helper()
	before := deepCopy(l)
	is := Join(l)
	if !same(is, want) {
		t.Errorf("%v: Join of\n%v is\n%v, want\n%v", what, l, is, want)
	}
	if ref := refJoin(l); !same(ref, want) {
		t.Errorf("%v: the reference for\n%v is\n%v, want\n%v", what, l, ref, want)
	}
	if !reflect.DeepEqual(deepCopy(l), before) {
		t.Errorf("%v: the argument %v has changed", what, before)
	}
	expectNewMemory(t, l, is)
	if again := Join(is); !same(again, is) {
		t.Errorf("%v: Join of %v is %v", what, is, again)
	}
}

func pick[T any](r *rand.Rand, l ...T) T { return l[r.Intn(len(l))] }

// deepCopy returns x in memory of its own.
func deepCopy[T any](x T) T { return deepCopyOf(reflect.ValueOf(x)).Interface().(T) }

func deepCopyOf(v reflect.Value) reflect.Value {
	c := reflect.New(v.Type()).Elem()
	c.Set(v)
	switch v.Kind() {
	case reflect.Struct:
		for i := range v.NumField() {
			c.Field(i).Set(deepCopyOf(v.Field(i)))
		}
	case reflect.Slice:
		c.SetZero()
		for i := range v.Len() {
			c = reflect.Append(c, deepCopyOf(v.Index(i)))
		}
	}
	return c
}

// stretch is the memory of a list, to its capacity.
type stretch struct{ from, to uintptr }

// memory returns the memory of all lists in v that have some.
func memory(v reflect.Value) []stretch {
	var l []stretch
	switch v.Kind() {
	case reflect.Struct:
		for i := range v.NumField() {
			l = append(l, memory(v.Field(i))...)
		}
	case reflect.Slice:
		if v.Cap() > 0 {
			l = append(l, stretch{v.Pointer(), v.Pointer() + uintptr(v.Cap())*v.Type().Elem().Size()})
		}
		for i := range v.Len() {
			l = append(l, memory(v.Index(i))...)
		}
	}
	return l
}

// expectNewMemory checks that no two lists of the argument and the result share memory.
func expectNewMemory(t *testing.T, argument, result any) {
	t.Helper()
	l := slices.Concat(memory(reflect.ValueOf(argument)), memory(reflect.ValueOf(result)))
	slices.SortFunc(l, func(a, b stretch) int { return cmp.Compare(a.from, b.from) })
	for i := 1; i < len(l); i++ {
		if l[i].from < l[i-1].to {
			t.Errorf("lists share memory")
			return
		}
	}
}
