package accept

import (
	"math/rand"
	"reflect"
	"strings"
	"testing"

	"synchrony/api"
	"synchrony/parse"
)

// fullText is an accepted program that has something of all kinds.
const fullText = `
type Light = Red | Amber | Green;
node count(r: bool) returns (n: int)
let
  n = if r then 0 else (0 fby n) + 1;
tel
node pair(a: int; l: Light) returns (x: int; m: Light)
  var late: int; c: bool; y: int when true(c); z: int when false(c);
  assume a > 0;
  ensure x > 0 or m = Red;
let
  late = pre a;
  x = merge c (true -> y) (false -> z);
  c = '1(01)';
  y = (1 -> late) when true(c);
  z = count(c when false(c));
  m = l fby merge m (Red -> Amber) (Amber -> Green) (Green -> l when Green(m));
tel
node main(a: int; stop: bool) returns (x: int; busy: bool; l: Light)
  var y: int;
  ensure count(stop) > 0;
let
  (y, l) = pair(a + 1, Green) every stop;
  automaton
    state Idle
      unless a > 3 then Busy;
    do
      x = 0;
      busy = false;
    done
    state Busy
      var k: int;
    do
      k = 0 -> pre k + y;
      busy = true;
      automaton
        state Low
        do
          x = k;
          until x > 9 then High;
        done
        state High
        do
          x = k - count(stop);
          until stop continue Low;
        done
      end
      until k > 20 continue Busy;
      until stop then Idle;
    done
  end
tel
node last(a: int) returns (z: int)
let
  z = a;
tel
`

// read returns the program with this text.
func read(t *testing.T, text string) api.Program {
	t.Helper()
	p, at, e := parse.Program(text)
	if e != api.OK {
		t.Fatalf("the error %d at %.30q in %s", int(e), text[at:], text)
	}
	return p
}

// full returns the full program with changes of its text.
func full(t *testing.T, changes ...change) api.Program {
	t.Helper()
	text := fullText
	for _, c := range changes {
		if strings.Count(text, c.old) != 1 {
			t.Fatalf("%q is not once in the text", c.old)
		}
		text = strings.Replace(text, c.old, c.new, 1)
	}
	return read(t, text)
}

// copyOf returns a copy of v in memory of its own.
func copyOf(v reflect.Value) reflect.Value {
	c := reflect.New(v.Type()).Elem()
	c.Set(v)
	switch v.Kind() {
	case reflect.Struct:
		for i := range v.NumField() {
			c.Field(i).Set(copyOf(v.Field(i)))
		}
	case reflect.Slice:
		c.SetZero()
		for i := range v.Len() {
			c = reflect.Append(c, copyOf(v.Index(i)))
		}
	}
	return c
}

func deepCopy(p api.Program) api.Program { return copyOf(reflect.ValueOf(p)).Interface().(api.Program) }

// partsOf returns all numbers, names, flags and lists in v.
func partsOf(v reflect.Value) []reflect.Value {
	var l []reflect.Value
	switch v.Kind() {
	case reflect.Struct:
		for i := range v.NumField() {
			l = append(l, partsOf(v.Field(i))...)
		}
		return l
	case reflect.Slice:
		for i := range v.Len() {
			l = append(l, partsOf(v.Index(i))...)
		}
	}
	return append(l, v)
}

// spoil changes a part of a program: mostly a name becomes another one that is near it.
func spoil(r *rand.Rand, p *api.Program) {
	l := partsOf(reflect.ValueOf(p).Elem())
	for {
		i := r.Intn(len(l))
		v, other := l[i], l[max(0, min(i+r.Intn(101)-50, len(l)-1))]
		switch {
		case v.Kind() != reflect.String && r.Intn(100) > 0:
			continue
		case v.Kind() == reflect.Int:
			v.SetInt(v.Int() + int64(r.Intn(5)) - 2)
		case v.Kind() == reflect.Bool:
			v.SetBool(!v.Bool())
		case v.Kind() == reflect.Slice && v.Len() > 0:
			v.Set(v.Slice(0, v.Len()-1))
		case v.Kind() == reflect.String && other.Kind() == reflect.String && v.String() != "" && other.String() != "":
			v.SetString(other.String())
		default:
			continue
		}
		return
	}
}

// scramble changes all that v contains, in its memory.
func scramble(v reflect.Value) {
	for _, x := range partsOf(v) {
		switch x.Kind() {
		case reflect.Int:
			x.SetInt(x.Int() + 1)
		case reflect.Bool:
			x.SetBool(!x.Bool())
		case reflect.String:
			x.SetString("scrambled")
		}
	}
}
