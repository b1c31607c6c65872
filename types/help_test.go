package types

import (
	"reflect"
	"slices"
	"strings"
	"testing"

	"synchrony/api"
	"synchrony/parse"
)

func variable(name string) api.Expr { return api.Expr{Kind: api.EVar, Name: name} }

func constant(t, v int) api.Expr { return api.Expr{Kind: api.EConst, T: t, V: v} }

// with has the kind and the arguments, and no other fields.
func with(kind int, args ...api.Expr) api.Expr { return api.Expr{Kind: kind, Args: args} }

func operation(op int, args ...api.Expr) api.Expr {
	return api.Expr{Kind: api.EOp, Op: op, Args: args}
}

func call(name string, args ...api.Expr) api.Expr {
	return api.Expr{Kind: api.ECall, Name: name, Args: args}
}

func eq(right api.Expr, left ...string) api.Eq { return api.Eq{Left: left, Right: right} }

// decls returns the declarations of variables with these names, of the type.
func decls(t int, names ...string) []api.Decl {
	var l []api.Decl
	for _, s := range names {
		l = append(l, api.Decl{Name: s, Type: t})
	}
	return l
}

// read returns the program with this text.
func read(t *testing.T, s string) api.Program {
	t.Helper()
	p, at, e := parse.Program(s)
	if e != api.OK {
		t.Fatalf("%.40q.. is refused at %d (%.20q) with the error %d", s, at, s[at:], int(e))
	}
	return p
}

func readExpr(t *testing.T, p api.Program, s string) api.Expr {
	t.Helper()
	e, at, err := parse.Expr(p.Enums, s)
	if err != api.OK {
		t.Fatalf("%q is refused at %d with the error %d", s, at, int(err))
	}
	return e
}

func expectCheck(t *testing.T, what string, p api.Program, where api.Where, want api.Errno) {
	t.Helper()
	if w, e := Check(p); w != where || e != want {
		t.Errorf("%s: Check = %v, %d, want %v, %d", what, w, int(e), where, int(want))
	}
}

func expectOf(t *testing.T, what string, p api.Program, node int, e api.Expr, types []int, want api.Errno) {
	t.Helper()
	if l, err := Of(p, node, e); !slices.Equal(l, types) || err != want {
		t.Errorf("%s: Of = %v, %d, want %v, %d", what, l, int(err), types, int(want))
	}
}

// deepCopy returns x in memory of its own.
func deepCopy[T any](x T) T { return copyOf(reflect.ValueOf(x)).Interface().(T) }

func copyOf(v reflect.Value) reflect.Value {
	c := reflect.New(v.Type()).Elem()
	c.Set(v)
	switch v.Kind() {
	case reflect.Struct:
		for i := range v.NumField() {
			c.Field(i).Set(copyOf(v.Field(i)))
		}
	case reflect.Slice:
		if v.IsNil() {
			break
		}
		c.Set(reflect.MakeSlice(v.Type(), v.Len(), v.Len()))
		for i := range v.Len() {
			c.Index(i).Set(copyOf(v.Index(i)))
		}
	}
	return c
}

// partsOf returns the parts of what p points to that are of the type T: fields, lists, and elements of lists.
func partsOf[T any](p any) []*T {
	var l []*T
	var visit func(v reflect.Value)
	visit = func(v reflect.Value) {
		if x, ok := v.Addr().Interface().(*T); ok {
			l = append(l, x)
		}
		switch v.Kind() {
		case reflect.Struct:
			for i := range v.NumField() {
				visit(v.Field(i))
			}
		case reflect.Slice:
			for i := range v.Len() {
				visit(v.Index(i))
			}
		}
	}
	visit(reflect.ValueOf(p).Elem())
	return l
}

// fullText has each kind of expression and each place of one. The states S and T have a local of the same name, of different types.
const fullText = `
type Light = Red | Green | Amber;
type Mode = On | Off;
node sign(a: int; l: Light) returns (s: bool)
  assume a > 0;
let
  s = a >= 0 and l <> Red;
tel
node pair(a: bool; m: Mode) returns (x: int; y: Mode)
let
  x = if a then 1 else 2;
  y = if a or m = On then m else Off;
tel
node tick() returns (n: int)
let
  n = 0 fby n + 1;
tel
node main(a: bool; i: int; l: Light) returns (x: int; m: Mode)
  var b: bool; k: int; n: Mode when true(a) when Green(l); u: int; w: bool; z: Light;
  assume a;
  assume i > 0 or sign(i, l);
  ensure x >= 0 xor m = Off;
  ensure sign(x, Red);
let
  x = merge l (Red -> -i) (Green -> k mod 3) (Amber -> tick() * pre u);
  (k, n) = pair(not a, On -> m) every b;
  m = if b and '1(01)' then n else Off fby m;
  automaton
    state S
      var c: bool; j: int; y: Mode;
      unless a and w then T;
      unless l = Red continue S;
    do
      c = sign(i, z) xor b;
      (j, y) = pair(c, m);
      automaton
        state P
          var h: int;
          unless c then Q;
          unless y = On continue P;
        do
          h = 1 -> pre h + j;
          u = h;
          automaton
            state R
              var g: Light;
              unless h < 0 then R;
            do
              g = Green;
              z = if c then g else l;
              until g = z continue R;
            done
          end
          until h = j then Q;
        done
        state Q
        do
          u = tick() every c;
          z = merge y (On -> l when On(y)) (Off -> Amber);
          until false then P;
        done
      end
      automaton
        state V
        do
          w = c when true(c);
          b = '(10)' -> w;
        done
      end
      until c and u > 0 then T;
      until j = u continue S;
    done
    state T
      var c: int;
    do
      c = 1 fby c + i;
      u = c;
      w = c > u;
      b = not w;
      z = z;
      until c > 3 continue S;
    done
  end
tel
node last(Light: int) returns (last: int)
let
  last = Light;
tel
`

// full returns the program of fullText with the changes, each one from an old text to a new one.
func full(t *testing.T, changes ...string) api.Program {
	t.Helper()
	s := fullText
	for i := 0; i < len(changes); i += 2 {
		if n := strings.Count(s, changes[i]); n != 1 {
			t.Fatalf("%q is %d times in the text", changes[i], n)
		}
		s = strings.Replace(s, changes[i], changes[i+1], 1)
	}
	return read(t, s)
}
