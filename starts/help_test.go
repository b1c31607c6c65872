package starts

import (
	"slices"
	"strings"
	"testing"

	"synchrony/api"
	"synchrony/parse"
	"synchrony/shape"
)

// read returns the program with this text.
func read(t *testing.T, s string) api.Program {
	t.Helper()
	p, at, e := parse.Program(s)
	if e != api.OK {
		t.Fatalf("%.40q.. is refused at %d (%.20q) with the error %d", s, at, s[at:], int(e))
	}
	return p
}

func readExpr(t *testing.T, p api.Program, s string) api.Expr {
	t.Helper()
	e, at, err := parse.Expr(p.Enums, s)
	if err != api.OK {
		t.Fatalf("%q is refused at %d with the error %d", s, at, int(err))
	}
	return e
}

// expectCheck checks the program with this text, which must stay as it is.
func expectCheck(t *testing.T, what, s string, where api.Where, want api.Errno) {
	t.Helper()
	p := read(t, s)
	expectCheckOf(t, what, p, where, want)
	if !shape.Same(p, read(t, s)) {
		t.Errorf("%s: the program became another one", what)
	}
}

func expectCheckOf(t *testing.T, what string, p api.Program, where api.Where, want api.Errno) {
	t.Helper()
	if w, e := Check(p); w != where || e != want {
		t.Errorf("%s: Check = %v, %d, want %v, %d", what, w, int(e), where, int(want))
	}
}

func expectLate(t *testing.T, what string, p api.Program, node int, names []string, want api.Errno) {
	t.Helper()
	if l, e := Late(p, node); !slices.Equal(l, names) || e != want {
		t.Errorf("%s: Late = %v, %d, want %v, %d", what, l, int(e), names, int(want))
	}
}

func expectOf(t *testing.T, what string, p api.Program, node int, e api.Expr, late bool, want api.Errno) {
	t.Helper()
	if is, err := Of(p, node, e); is != late || err != want {
		t.Errorf("%s: Of = %v, %d, want %v, %d", what, is, int(err), late, int(want))
	}
}

// changed returns a text with changes, each one from an old text to a new one.
func changed(t *testing.T, s string, changes ...string) string {
	t.Helper()
	for i := 0; i < len(changes); i += 2 {
		if n := strings.Count(s, changes[i]); n != 1 {
			t.Fatalf("%q is %d times in the text", changes[i], n)
		}
		s = strings.Replace(s, changes[i], changes[i+1], 1)
	}
	return s
}

// fullText has late variables of each type and on several clocks, at the places where Check permits them.
const fullText = `
type E = P | Q;
node sub(a: int; b: bool) returns (s: int)
let
  s = a;
tel
node two(a: int) returns (x: int; y: int)
  var lateA: int;
  ensure y > 0;
let
  lateA = pre a;
  x = 0 -> lateA;
  y = 1;
tel
node main(a: int; c: bool; e: E) returns (x: int; y: bool)
  var z: int; lateM: int; lateK: bool; lateH: E; lateU: int when true(c); lateV: int when false(c);
    d: bool when true(c); w: int when true(c) when false(d); lateW: int when true(c) when false(d); g: int; h: int; q: int when P(e); r: E; o: int when P(r);
  assume c or a > 0;
  assume true -> pre c;
  ensure x > 0;
  ensure (true -> pre x > 0) and y;
let
  z = 0 -> lateM;
  lateM = pre a;
  lateK = not c and lateM > 3;
  lateH = if lateK then P else e;
  lateU = lateM when true(c);
  lateV = if a when false(c) > 0 then pre (z when false(c)) else 1;
  x = merge c (true -> 5 -> lateU) (false -> 0);
  y = false fby c or '(01)';
  d = true -> lateU > 3;
  w = z when true(c) when false(d);
  lateW = lateU when false(d) + w;
  (g, h) = two(z) every (false fby y);
  q = sub(a, c) when P(e);
  r = e -> (P -> lateH);
  o = 5;
tel
node last(a: int) returns (x: int)
let
  x = 0 fby a;
tel
`
