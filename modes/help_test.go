package modes

import (
	"reflect"
	"testing"

	"synchrony/api"
	"synchrony/parse"
	"synchrony/shape"
	"synchrony/show"
)

// read returns the program with this text.
func read(t *testing.T, s string) api.Program {
	t.Helper()
	p, at, e := parse.Program(s)
	if e != api.OK {
		t.Fatalf("%.40q.. is refused at %d (%.20q) with the error %d", s, at, s[at:], int(e))
	}
	return p
}

// expand returns the expanded program.
func expand(t *testing.T, what string, p api.Program) api.Program {
	t.Helper()
	q, e := Expand(p)
	if e != api.OK {
		t.Fatalf("%s: Expand returns the error %d", what, int(e))
	}
	return q
}

// expectText checks the text of the expanded program.
func expectText(t *testing.T, text, want string) {
	t.Helper()
	p := read(t, text)
	s, e := show.Program(expand(t, text, p))
	if s != want || e != api.OK {
		t.Errorf("error %d, expanded:\n%s\nwant\n%s", int(e), s, want)
	}
	if !shape.Same(p, read(t, text)) {
		t.Errorf("the program became another one:\n%s", text)
	}
}

// expectError checks that Expand returns an error, and nothing else.
func expectError(t *testing.T, what string, p api.Program, want api.Errno) {
	t.Helper()
	if q, e := Expand(p); e != want || !reflect.DeepEqual(q, api.Program{}) {
		t.Errorf("%s: Expand returns the error %d, want %d, and %d nodes", what, int(e), int(want), len(q.Nodes))
	}
}

// deepCopy returns x in memory of its own.
func deepCopy[T any](x T) T { return copyOf(reflect.ValueOf(x)).Interface().(T) }

func copyOf(v reflect.Value) reflect.Value {
	c := reflect.New(v.Type()).Elem()
	c.Set(v)
	switch v.Kind() {
	case reflect.Struct:
		for i := range v.NumField() {
			c.Field(i).Set(copyOf(v.Field(i)))
		}
	case reflect.Slice:
		if v.IsNil() {
			break
		}
		c.Set(reflect.MakeSlice(v.Type(), v.Len(), v.Len()))
		for i := range v.Len() {
			c.Index(i).Set(copyOf(v.Index(i)))
		}
	}
	return c
}

// stretch is the memory of a list, to its capacity.
type stretch struct{ from, to uintptr }

// memory returns the memory of all lists in v that have some.
func memory(v reflect.Value) []stretch {
	var l []stretch
	switch v.Kind() {
	case reflect.Struct:
		for i := range v.NumField() {
			l = append(l, memory(v.Field(i))...)
		}
	case reflect.Slice:
		if v.Cap() > 0 {
			l = append(l, stretch{v.Pointer(), v.Pointer() + uintptr(v.Cap())*v.Type().Elem().Size()})
		}
		for i := range v.Len() {
			l = append(l, memory(v.Index(i))...)
		}
	}
	return l
}
