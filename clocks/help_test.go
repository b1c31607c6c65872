package clocks

import (
	"reflect"
	"strings"
	"testing"

	"synchrony/api"
	"synchrony/parse"
)

func variable(name string) api.Expr { return api.Expr{Kind: api.EVar, Name: name} }

func constant(t, v int) api.Expr { return api.Expr{Kind: api.EConst, T: t, V: v} }

// with has the kind and the arguments, and no other fields.
func with(kind int, args ...api.Expr) api.Expr { return api.Expr{Kind: kind, Args: args} }

func operation(op int, args ...api.Expr) api.Expr {
	return api.Expr{Kind: api.EOp, Op: op, Args: args}
}

func call(name string, args ...api.Expr) api.Expr {
	return api.Expr{Kind: api.ECall, Name: name, Args: args}
}

func when(x api.On, e api.Expr) api.Expr {
	return api.Expr{Kind: api.EWhen, Name: x.Name, T: x.T, V: x.Tag, Args: []api.Expr{e}}
}

func merge(name string, t int, args ...api.Expr) api.Expr {
	return api.Expr{Kind: api.EMerge, Name: name, T: t, Args: args}
}

// is is the sampling at the instants at which a variable of the type bool is true.
func is(name string) api.On { return api.On{Name: name, T: api.TBool, Tag: 1} }

func isNot(name string) api.On { return api.On{Name: name, T: api.TBool, Tag: 0} }

func eq(right api.Expr, left ...string) api.Eq { return api.Eq{Left: left, Right: right} }

// read returns the program with this text.
func read(t *testing.T, s string) api.Program {
	t.Helper()
	p, at, e := parse.Program(s)
	if e != api.OK {
		t.Fatalf("%.40q.. is refused at %d (%.20q) with the error %d", s, at, s[at:], int(e))
	}
	return p
}

func readExpr(t *testing.T, p api.Program, s string) api.Expr {
	t.Helper()
	e, at, err := parse.Expr(p.Enums, s)
	if err != api.OK {
		t.Fatalf("%q is refused at %d with the error %d", s, at, int(err))
	}
	return e
}

func expectCheck(t *testing.T, what string, p api.Program, where api.Where, want api.Errno) {
	t.Helper()
	if w, e := Check(p); w != where || e != want {
		t.Errorf("%s: Check = %v, %d, want %v, %d", what, w, int(e), where, int(want))
	}
}

func expectFits(t *testing.T, what string, p api.Program, node int, e api.Expr, ck []api.On, want api.Errno) {
	t.Helper()
	if err := Fits(p, node, e, ck); err != want {
		t.Errorf("%s: Fits %v = %d, want %d", what, ck, int(err), int(want))
	}
}

func expectOf(t *testing.T, what string, p api.Program, node int, name string, ck []api.On, want api.Errno) {
	t.Helper()
	l, err := Of(p, node, name)
	if len(l) != len(ck) || len(l) > 0 && !reflect.DeepEqual(l, ck) || err != want {
		t.Errorf("%s: Of %s = %v, %d, want %v, %d", what, name, l, int(err), ck, int(want))
	}
}

// deepCopy returns x in memory of its own.
func deepCopy[T any](x T) T { return copyOf(reflect.ValueOf(x)).Interface().(T) }

func copyOf(v reflect.Value) reflect.Value {
	c := reflect.New(v.Type()).Elem()
	c.Set(v)
	switch v.Kind() {
	case reflect.Struct:
		for i := range v.NumField() {
			c.Field(i).Set(copyOf(v.Field(i)))
		}
	case reflect.Slice:
		if v.IsNil() {
			break
		}
		c.Set(reflect.MakeSlice(v.Type(), v.Len(), v.Len()))
		for i := range v.Len() {
			c.Index(i).Set(copyOf(v.Index(i)))
		}
	}
	return c
}

// partsOf returns the parts of what p points to that are of the type T: fields, lists, and elements of lists.
func partsOf[T any](p any) []*T {
	var l []*T
	var visit func(v reflect.Value)
	visit = func(v reflect.Value) {
		if x, ok := v.Addr().Interface().(*T); ok {
			l = append(l, x)
		}
		switch v.Kind() {
		case reflect.Struct:
			for i := range v.NumField() {
				visit(v.Field(i))
			}
		case reflect.Slice:
			for i := range v.Len() {
				visit(v.Index(i))
			}
		}
	}
	visit(reflect.ValueOf(p).Elem())
	return l
}

// fullText has each kind of expression, and locals on clocks of several lengths. Nodes have variables of the same names, on different clocks.
const fullText = `
type Light = Red | Green | Amber;
node pair(a: bool; c: int) returns (x: int; y: bool)
  var k: int when true(a);
  ensure x > c;
let
  x = merge a (true -> k) (false -> 2);
  y = not a;
  k = c when true(a);
tel
node sum(a: int; b: int) returns (s: int)
let
  s = a + b;
tel
node main(a: int; c: bool; l: Light) returns (x: int; m: bool)
  var y: int when true(c);
    w: int when true(c) when false(d);
    v: bool when true(c) when false(d);
    d: bool when true(c);
    z: int when false(c);
    r: Light when Green(l);
    u: int when Green(l) when Red(r);
    b: bool when true(c);
    g: int;
  assume c;
  assume sum(a, 1) > 0;
  ensure x > a;
  ensure pre m or merge c (true -> m when true(c)) (false -> false);
let
  x = merge c (true -> y + 1) (false -> if c when false(c) then z else 0);
  m = merge c (true -> merge d (true -> '(01)') (false -> v)) (false -> true fby false);
  y = pre (a when true(c)) -> y fby 3;
  z = 5;
  (w, v) = pair(v, y when false(d)) every v;
  r = l when Green(l);
  d = sum(y, a when true(c)) every b > 0;
  b = d -> not b;
  u = a when Green(l) when Red(r);
  g = merge l (Red -> - a when Red(l)) (Green -> merge r (Red -> u) (Green -> 1) (Amber -> a when Green(l) when Amber(r))) (Amber -> 3);
tel
`

// full returns the program of fullText with the changes, each one from an old text to a new one.
func full(t *testing.T, changes ...string) api.Program {
	t.Helper()
	s := fullText
	for i := 0; i < len(changes); i += 2 {
		if n := strings.Count(s, changes[i]); n != 1 {
			t.Fatalf("%q is %d times in the text", changes[i], n)
		}
		s = strings.Replace(s, changes[i], changes[i+1], 1)
	}
	return read(t, s)
}
