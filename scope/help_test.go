package scope

import (
	"reflect"
	"strings"
	"testing"

	"synchrony/api"
	"synchrony/parse"
)

func variable(name string) api.Expr { return api.Expr{Kind: api.EVar, Name: name} }

func number(v int) api.Expr { return api.Expr{Kind: api.EConst, T: api.TInt, V: v} }

// with has the kind and the arguments, and no other fields.
func with(kind int, args ...api.Expr) api.Expr { return api.Expr{Kind: kind, Args: args} }

func call(name string, args ...api.Expr) api.Expr {
	return api.Expr{Kind: api.ECall, Name: name, Args: args}
}

func decls(names ...string) []api.Decl {
	var l []api.Decl
	for _, s := range names {
		l = append(l, api.Decl{Name: s, Type: api.TInt})
	}
	return l
}

// eqs returns equations that define the names one by one.
func eqs(names ...string) []api.Eq {
	var l []api.Eq
	for _, s := range names {
		l = append(l, eq(number(0), s))
	}
	return l
}

func eq(right api.Expr, left ...string) api.Eq { return api.Eq{Left: left, Right: right} }

// read returns the program with this text.
func read(t *testing.T, s string) api.Program {
	t.Helper()
	p, at, e := parse.Program(s)
	if e != api.OK {
		t.Fatalf("%.40q.. is refused at %d (%.20q) with the error %d", s, at, s[at:], int(e))
	}
	return p
}

func expectCheck(t *testing.T, what string, p api.Program, where api.Where, want api.Errno) {
	t.Helper()
	if w, e := Check(p); w != where || e != want {
		t.Errorf("%s: Check = %v, %d, want %v, %d", what, w, int(e), where, int(want))
	}
}

// deepCopy returns x in memory of its own.
func deepCopy[T any](x T) T { return copyOf(reflect.ValueOf(x)).Interface().(T) }

func copyOf(v reflect.Value) reflect.Value {
	c := reflect.New(v.Type()).Elem()
	c.Set(v)
	switch v.Kind() {
	case reflect.Struct:
		for i := range v.NumField() {
			c.Field(i).Set(copyOf(v.Field(i)))
		}
	case reflect.Slice:
		if v.IsNil() {
			break
		}
		c.Set(reflect.MakeSlice(v.Type(), v.Len(), v.Len()))
		for i := range v.Len() {
			c.Index(i).Set(copyOf(v.Index(i)))
		}
	}
	return c
}

// parts calls visit for each part of what v points to: fields, lists, and elements of lists.
func parts(v reflect.Value, visit func(v reflect.Value)) {
	visit(v)
	switch v.Kind() {
	case reflect.Struct:
		for i := range v.NumField() {
			parts(v.Field(i), visit)
		}
	case reflect.Slice:
		for i := range v.Len() {
			parts(v.Index(i), visit)
		}
	}
}

// partsOf returns the parts of a program that are of the type T.
func partsOf[T any](p *api.Program) []*T {
	var l []*T
	parts(reflect.ValueOf(p).Elem(), func(v reflect.Value) {
		if x, ok := v.Addr().Interface().(*T); ok {
			l = append(l, x)
		}
	})
	return l
}

// fullText has each part at least twice where there may be several. Types, nodes, variables and states have some names in common.
const fullText = `
type Light = Red | Green | Amber;
type Mode = On | Off;
node f(a: bool; l: Light) returns (x: int)
  assume a;
let
  x = if a then 1 else 2;
tel
node pair(a: int) returns (x: int; y: int)
let
  x = a;
  y = a;
tel
node two(a: bool) returns (x: int; y: Mode)
let
  x = 0;
  y = On;
tel
node main(a: bool; f: bool; l: Light) returns (x: int; Mode: Mode)
  var m: int when true(a) when Red(l); n: Mode; u: int; w: bool; two: int; z: int;
  assume a and f;
  assume f(a, l) > 0;
  ensure x > f(f, l);
  ensure a or Mode = On;
let
  x = merge l (Red -> -1) (Green -> m) (Amber -> (n when Green(l)) + f(w, Red) * (pre u));
  (m, n) = two(a and not f) every w;
  Mode = if a then n else (Off -> n);
  automaton
    state S
      var k: bool when true(a) when Green(l); j: int;
      unless a and w then T;
      unless l = Red continue S;
    do
      k = a;
      (j, u) = pair(f(a, l) every k);
      automaton
        state S
          var i: int when false(k);
          unless k then a;
        do
          i = j;
          w = pre k;
          automaton
            state main
              var h: int;
              unless i > 0 then main;
            do
              h = i -> (pre h) + j;
              two = h;
              until h > x then main;
              until w continue main;
            done
          end
          until i = j then a;
        done
        state a
        do
          two = f(k, l);
          w = false;
        done
      end
      automaton
        state a
        do
          z = two;
        done
      end
      until k and z > 0 then T;
      until j > u continue S;
    done
    state T
      var i: int; k: int when true(a);
    do
      i = 1 fby i + x;
      k = i;
      (z, w) = pair(i);
      u = 0;
      two = 1;
      until k > i continue S;
    done
  end
tel
node last(Light: int) returns (last: int)
let
  last = Light;
tel
`

// full returns the program of fullText with the changes, each one from an old text to a new one.
func full(t *testing.T, changes ...string) api.Program {
	t.Helper()
	s := fullText
	for i := 0; i < len(changes); i += 2 {
		if n := strings.Count(s, changes[i]); n != 1 {
			t.Fatalf("%q is %d times in the text", changes[i], n)
		}
		s = strings.Replace(s, changes[i], changes[i+1], 1)
	}
	return read(t, s)
}
