package obj

import (
	"math/rand"
	"reflect"
	"strings"
	"testing"

	"synchrony/api"
)

func v(name string) api.Expr { return api.Expr{Kind: api.EVar, Name: name} }

func state(name string) api.Expr { return api.Expr{Kind: api.EState, Name: name} }

func constant(t, v int) api.Expr { return api.Expr{Kind: api.EConst, T: t, V: v} }

func number(v int) api.Expr { return constant(api.TInt, v) }

func truth(v int) api.Expr { return constant(api.TBool, v) }

func op(op int, args ...api.Expr) api.Expr { return api.Expr{Kind: api.EOp, Op: op, Args: args} }

func either(args ...api.Expr) api.Expr { return api.Expr{Kind: api.EIf, Args: args} }

func assign(name string, e api.Expr) api.Stmt {
	return api.Stmt{Kind: api.SAssign, Name: name, Right: e}
}

func store(name string, e api.Expr) api.Stmt {
	return api.Stmt{Kind: api.SStore, Name: name, Right: e}
}

func seq(l ...api.Stmt) []api.Stmt { return l }

// by is a case by a variable of the type bool.
func by(name string, branches ...[]api.Stmt) api.Stmt {
	return api.Stmt{Kind: api.SCase, Name: name, T: api.TBool, Branches: branches}
}

// byTag is a case by a variable of the first enumeration.
func byTag(name string, branches ...[]api.Stmt) api.Stmt {
	s := by(name, branches...)
	s.T = api.TEnum
	return s
}

func call(name, outs string, args ...api.Expr) api.Stmt {
	return api.Stmt{Kind: api.SCall, Name: name, Outs: strings.Fields(outs), Args: args}
}

func reset(name string) api.Stmt { return api.Stmt{Kind: api.SReset, Name: name} }

// decls returns declarations of variables: their names and types, separated by colons.
func decls(s string) []api.Decl {
	var l []api.Decl
	for _, x := range strings.Fields(s) {
		name, t, _ := strings.Cut(x, ":")
		l = append(l, api.Decl{Name: name, Type: map[string]int{"b": api.TBool, "i": api.TInt, "e": api.TEnum}[t]})
	}
	return l
}

func enums() []api.Enum {
	return []api.Enum{{Name: "E", Tags: []string{"P", "Q", "R"}}, {Name: "F", Tags: []string{"S"}}}
}

func objects(classes ...api.Class) api.Objects {
	return api.Objects{Enums: enums(), Classes: classes}
}

// counter counts, modulo 65536, the executions since the beginning by its input.
func counter() api.Class {
	return api.Class{
		Name: "counter", In: decls("by:i"), Out: decls("n:i"), Mems: []api.Mem{{Name: "m", Type: api.TInt}},
		Step: seq(assign("n", op(api.OpAdd, state("m"), v("by"))), store("m", v("n"))),
	}
}

// deepCopy returns x in memory of its own.
func deepCopy[T any](x T) T { return deepCopyOf(reflect.ValueOf(x)).Interface().(T) }

func deepCopyOf(v reflect.Value) reflect.Value {
	c := reflect.New(v.Type()).Elem()
	c.Set(v)
	switch v.Kind() {
	case reflect.Struct:
		for i := range v.NumField() {
			c.Field(i).Set(deepCopyOf(v.Field(i)))
		}
	case reflect.Slice:
		if v.IsNil() {
			break
		}
		c.Set(reflect.MakeSlice(v.Type(), v.Len(), v.Len()))
		for i := range v.Len() {
			c.Index(i).Set(deepCopyOf(v.Index(i)))
		}
	}
	return c
}

// spoil calls f for v and for each change of one number, name or list in it.
func spoil(v reflect.Value, f func()) {
	switch v.Kind() {
	case reflect.Struct:
		for i := range v.NumField() {
			spoil(v.Field(i), f)
		}
		return
	case reflect.Slice:
		for i := range v.Len() {
			spoil(v.Index(i), f)
		}
	}
	before := deepCopy(v.Interface())
	switch v.Kind() {
	case reflect.Int:
		for _, d := range []int64{1, -1, 5} {
			v.SetInt(int64(before.(int)) + d)
			f()
		}
	case reflect.String:
		v.SetString(v.String() + "x")
		f()
	case reflect.Slice:
		v.Set(reflect.Append(v, reflect.Zero(v.Type().Elem())))
		f()
		if v.Len() > 1 {
			v.Set(reflect.Append(v.Slice(0, v.Len()-1), v.Index(0)))
			f()
			v.Set(v.Slice(0, v.Len()-2))
			f()
		}
	}
	v.Set(reflect.ValueOf(before))
}

func expectCheck(t *testing.T, what any, o api.Objects, want api.Errno) {
	t.Helper()
	before := deepCopy(o)
	if e := Check(o); e != want {
		t.Errorf("%v: Check returns %d, want %d", what, int(e), int(want))
	}
	if e := refCheck(o); e != want {
		t.Errorf("%v: the reference returns %d, want %d", what, int(e), int(want))
	}
	if !reflect.DeepEqual(o, before) {
		t.Errorf("%v: Check changed the object code", what)
	}
}

// made returns a new object.
func made(t *testing.T, o api.Objects, class string) *Object {
	t.Helper()
	x, e := New(o, class)
	if e != api.OK || x == nil {
		t.Fatalf("New of %s returns the error %d", class, int(e))
	}
	return x
}

func pick[T any](r *rand.Rand, l ...T) T { return l[r.Intn(len(l))] }
