package norm

import (
	"cmp"
	"reflect"
	"slices"
	"strings"
	"testing"

	"synchrony/api"
	"synchrony/parse"
	"synchrony/show"
)

// read returns the program with this text.
func read(t *testing.T, s string) api.Program {
	t.Helper()
	p, at, e := parse.Program(s)
	if e != api.OK {
		t.Fatalf("%.60q.. is refused at %d (%.20q) with the error %d", s, at, s[at:], int(e))
	}
	return p
}

// normal returns the normal form of a program.
func normal(t *testing.T, what string, p api.Program) api.NProgram {
	t.Helper()
	n, e := Program(p)
	if e != api.OK {
		t.Fatalf("%s: Program returns the error %d", what, int(e))
	}
	return n
}

// text returns the declarations of the locals and the equations of a node, as those of a program, without the line breaks.
func text(t *testing.T, p api.Program, node int) string {
	t.Helper()
	s, e := show.Program(api.Program{Enums: p.Enums, Nodes: p.Nodes[node : node+1]})
	if e != api.OK {
		t.Fatalf("the node %d is malformed: error %d", node, int(e))
	}
	s = strings.Join(strings.Fields(s[strings.Index(s, "node "):]), " ")
	if i := strings.Index(s, " var "); i >= 0 {
		return s[i+1:]
	}
	return s[strings.Index(s, " let ")+1:]
}

func variables(names ...string) []api.Expr {
	var l []api.Expr
	for _, name := range names {
		l = append(l, api.Expr{Kind: api.EVar, Name: name})
	}
	return l
}

// with returns an expression of a kind, with arguments.
func with(kind int, args ...api.Expr) api.Expr { return api.Expr{Kind: kind, Args: args} }

func number(v int) api.Expr { return api.Expr{Kind: api.EConst, T: api.TInt, V: v} }

// deepCopy returns x in memory of its own.
func deepCopy[T any](x T) T { return copyOf(reflect.ValueOf(x)).Interface().(T) }

func copyOf(v reflect.Value) reflect.Value {
	c := reflect.New(v.Type()).Elem()
	c.Set(v)
	switch v.Kind() {
	case reflect.Struct:
		for i := range v.NumField() {
			c.Field(i).Set(copyOf(v.Field(i)))
		}
	case reflect.Slice:
		if v.IsNil() {
			break
		}
		c.Set(reflect.MakeSlice(v.Type(), v.Len(), v.Len()))
		for i := range v.Len() {
			c.Index(i).Set(copyOf(v.Index(i)))
		}
	}
	return c
}

// stretch is the memory of a list, to its capacity.
type stretch struct{ from, to uintptr }

// memory returns the memory of all lists in v that have some.
func memory(v reflect.Value) []stretch {
	var l []stretch
	switch v.Kind() {
	case reflect.Struct:
		for i := range v.NumField() {
			l = append(l, memory(v.Field(i))...)
		}
	case reflect.Slice:
		if v.Cap() > 0 {
			l = append(l, stretch{v.Pointer(), v.Pointer() + uintptr(v.Cap())*v.Type().Elem().Size()})
		}
		for i := range v.Len() {
			l = append(l, memory(v.Index(i))...)
		}
	}
	return l
}

// expectNewMemory checks that no two lists of the argument and the result share memory.
func expectNewMemory(t *testing.T, what string, argument, result any) {
	t.Helper()
	l := slices.Concat(memory(reflect.ValueOf(argument)), memory(reflect.ValueOf(result)))
	slices.SortFunc(l, func(a, b stretch) int { return cmp.Compare(a.from, b.from) })
	for i := 1; i < len(l); i++ {
		if l[i].from < l[i-1].to {
			t.Errorf("%s: lists share memory", what)
			return
		}
	}
}

// spoil calls f for v and for each change of one number, name, flag or list in it.
func spoil(v reflect.Value, f func()) {
	switch v.Kind() {
	case reflect.Struct:
		for i := range v.NumField() {
			spoil(v.Field(i), f)
		}
		return
	case reflect.Slice:
		for i := range v.Len() {
			spoil(v.Index(i), f)
		}
	}
	before := deepCopy(v.Interface())
	switch v.Kind() {
	case reflect.Int:
		v.SetInt(v.Int() + 1)
	case reflect.String:
		v.SetString(v.String() + "x")
	case reflect.Bool:
		v.SetBool(!v.Bool())
	case reflect.Slice:
		v.Set(reflect.Append(v, reflect.Zero(v.Type().Elem())))
		f()
		if v.Len() > 1 {
			v.Set(v.Slice(0, v.Len()-2))
			f()
		}
		v.Set(reflect.ValueOf(before))
		return
	}
	f()
	v.Set(reflect.ValueOf(before))
}
