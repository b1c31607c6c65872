package gen

import (
	"cmp"
	"reflect"
	"slices"
	"strings"
	"testing"

	"synchrony/api"
	"synchrony/obj"
)

func v(name string) api.Expr { return api.Expr{Kind: api.EVar, Name: name} }

func with(kind int, args ...api.Expr) api.Expr { return api.Expr{Kind: kind, Args: args} }

// when samples e by a variable of the type bool.
func when(name string, e ...api.Expr) api.Expr {
	return api.Expr{Kind: api.EWhen, Name: name, T: api.TBool, V: 1, Args: e}
}

func merge(name string, t int, args ...api.Expr) api.Expr {
	return api.Expr{Kind: api.EMerge, Name: name, T: t, Args: args}
}

func sum(args ...api.Expr) api.Expr { return apply(api.OpAdd, args...) }

func def(left string, right api.Expr, ck ...api.On) api.NEq {
	return api.NEq{Kind: api.NDef, Left: strings.Fields(left), Right: right, Clock: ck}
}

func delay(left string, init int, right api.Expr, ck ...api.On) api.NEq {
	return api.NEq{Kind: api.NDelay, Left: strings.Fields(left), Init: init, Right: right, Clock: ck}
}

func call(left, node, every string, args ...api.Expr) api.NEq {
	return api.NEq{Kind: api.NCall, Left: strings.Fields(left), Node: node, Every: every, Args: args}
}

func word(left, letters string, ck ...api.On) api.NEq {
	return api.NEq{Kind: api.NWord, Left: strings.Fields(left), Node: letters, Clock: ck}
}

func on(name string, t, tag int) api.On { return api.On{Name: name, T: t, Tag: tag} }

func seq(l ...api.Stmt) []api.Stmt { return l }

func by(name string, t int, branches ...[]api.Stmt) api.Stmt {
	return api.Stmt{Kind: api.SCase, Name: name, T: t, Branches: branches}
}

func step(instance, outs string, args ...api.Expr) api.Stmt {
	return api.Stmt{Kind: api.SCall, Name: instance, Outs: strings.Fields(outs), Args: args}
}

func reset(instance string) api.Stmt { return api.Stmt{Kind: api.SReset, Name: instance} }

// decls returns declarations of variables: their names and types, separated by colons.
func decls(s string) []api.Decl {
	var l []api.Decl
	for _, x := range strings.Fields(s) {
		name, t, _ := strings.Cut(x, ":")
		l = append(l, api.Decl{Name: name, Type: map[string]int{"b": api.TBool, "i": api.TInt, "e": api.TEnum}[t]})
	}
	return l
}

// some is a node with variables of all types, and the equations.
func some(eqs ...api.NEq) api.NNode {
	return api.NNode{Name: "f", In: decls("a:i c:b e:e"), Out: decls("x:i y:b z:e"), Locals: decls("p:i q:b r:e"), Eqs: eqs}
}

func sameClass(a, b api.Class) bool {
	return obj.Same(api.Objects{Classes: []api.Class{a}}, api.Objects{Classes: []api.Class{b}})
}

func sameStmts(a, b []api.Stmt) bool { return sameClass(api.Class{Step: a}, api.Class{Step: b}) }

// made returns the class of a node that has one.
func made(t *testing.T, n api.NNode) api.Class {
	t.Helper()
	c, e := Class(n)
	if e != api.OK {
		t.Errorf("%v: the error is %d", n, int(e))
	}
	return c
}

// expectSteps checks the steps of a node with an equation.
func expectSteps(t *testing.T, x api.NEq, want ...api.Stmt) {
	t.Helper()
	if c := made(t, some(x)); !sameStmts(c.Step, want) {
		t.Errorf("%v: the steps are\n%v, want\n%v", x, c.Step, want)
	}
}

// deepCopy returns x in memory of its own.
func deepCopy[T any](x T) T { return deepCopyOf(reflect.ValueOf(x)).Interface().(T) }

func deepCopyOf(v reflect.Value) reflect.Value {
	c := reflect.New(v.Type()).Elem()
	c.Set(v)
	switch v.Kind() {
	case reflect.Struct:
		for i := range v.NumField() {
			c.Field(i).Set(deepCopyOf(v.Field(i)))
		}
	case reflect.Slice:
		c.SetZero()
		for i := range v.Len() {
			c = reflect.Append(c, deepCopyOf(v.Index(i)))
		}
	}
	return c
}

// stretch is the memory of a list, to its capacity.
type stretch struct{ from, to uintptr }

// memory returns the memory of all lists in v that have some.
func memory(v reflect.Value) []stretch {
	var l []stretch
	switch v.Kind() {
	case reflect.Struct:
		for i := range v.NumField() {
			l = append(l, memory(v.Field(i))...)
		}
	case reflect.Slice:
		if v.Cap() > 0 {
			l = append(l, stretch{v.Pointer(), v.Pointer() + uintptr(v.Cap())*v.Type().Elem().Size()})
		}
		for i := range v.Len() {
			l = append(l, memory(v.Index(i))...)
		}
	}
	return l
}

// expectNewMemory checks that no two lists of the argument and the result share memory.
func expectNewMemory(t *testing.T, argument, result any) {
	t.Helper()
	l := slices.Concat(memory(reflect.ValueOf(argument)), memory(reflect.ValueOf(result)))
	slices.SortFunc(l, func(a, b stretch) int { return cmp.Compare(a.from, b.from) })
	for i := 1; i < len(l); i++ {
		if l[i].from < l[i-1].to {
			t.Errorf("lists share memory")
			return
		}
	}
}
