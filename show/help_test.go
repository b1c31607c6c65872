package show

import (
	"reflect"
	"testing"

	"synchrony/api"
)

func variable(name string) api.Expr { return api.Expr{Kind: api.EVar, Name: name} }

func constant(t, v int) api.Expr { return api.Expr{Kind: api.EConst, T: t, V: v} }

func number(v int) api.Expr { return constant(api.TInt, v) }

// with has the kind and the arguments, and no other fields.
func with(kind int, args ...api.Expr) api.Expr { return api.Expr{Kind: kind, Args: args} }

func apply(op int, args ...api.Expr) api.Expr { return api.Expr{Kind: api.EOp, Op: op, Args: args} }

func when(e api.Expr, name string, t, v int) api.Expr {
	return api.Expr{Kind: api.EWhen, Name: name, T: t, V: v, Args: []api.Expr{e}}
}

func merge(name string, t int, args ...api.Expr) api.Expr {
	return api.Expr{Kind: api.EMerge, Name: name, T: t, Args: args}
}

func call(name string, args ...api.Expr) api.Expr {
	return api.Expr{Kind: api.ECall, Name: name, Args: args}
}

func every(name string, args ...api.Expr) api.Expr {
	return api.Expr{Kind: api.ECall, Name: name, V: 1, Args: args}
}

func periodic(name string) api.Expr { return api.Expr{Kind: api.EWord, Name: name} }

func decl(name string, t int, clock ...api.On) api.Decl {
	return api.Decl{Name: name, Type: t, Clock: clock}
}

func eq(right api.Expr, left ...string) api.Eq { return api.Eq{Left: left, Right: right} }

// The types of the enumerations.
const (
	light = api.TEnum + iota
	only
	none
	again
)

// enums has an enumeration without tags, and one with tags that the first one has.
func enums() []api.Enum {
	return []api.Enum{
		{Name: "Light", Tags: []string{"Red", "Green", "Amber"}},
		{Name: "Only", Tags: []string{"One"}},
		{Name: "None"},
		{Name: "Again", Tags: []string{"Green", "Red"}},
	}
}

func expectExpr(t *testing.T, e api.Expr, want string) {
	t.Helper()
	if s, err := Expr(enums(), e); s != want || err != api.OK {
		t.Errorf("Expr(%v) = %q, %d, want %q", e, s, int(err), want)
	}
}

func refuseExpr(t *testing.T, l []api.Enum, e api.Expr, want api.Errno) {
	t.Helper()
	if s, err := Expr(l, e); s != "" || err != want {
		t.Errorf("Expr(%v) = %q, %d, want %d", e, s, int(err), int(want))
	}
}

func expectProgram(t *testing.T, p api.Program, want string) {
	t.Helper()
	if s, e := Program(p); s != want || e != api.OK {
		t.Errorf("Program = %d,\n%s\nwant\n%s", int(e), s, want)
	}
}

// deepCopy returns x in memory of its own.
func deepCopy[T any](x T) T { return copyOf(reflect.ValueOf(x)).Interface().(T) }

func copyOf(v reflect.Value) reflect.Value {
	c := reflect.New(v.Type()).Elem()
	c.Set(v)
	switch v.Kind() {
	case reflect.Struct:
		for i := range v.NumField() {
			c.Field(i).Set(copyOf(v.Field(i)))
		}
	case reflect.Slice:
		if v.IsNil() {
			break
		}
		c.Set(reflect.MakeSlice(v.Type(), v.Len(), v.Len()))
		for i := range v.Len() {
			c.Index(i).Set(copyOf(v.Index(i)))
		}
	}
	return c
}
