package bword

import (
	"slices"
	"testing"

	"synchrony/api"
)

// TestNormLaws is P2.8: Norm keeps the letters, twice is once, and Same is the equality of normal forms.
func TestNormLaws(t *testing.T) {
	l := slices.Concat(all(2, 3), many(100))
	for _, a := range l {
		n := Norm(a)
		if !slices.Equal(spell(n, 8192), spell(a, 8192)) || !same(Norm(n), n) || !Same(a, n) || Check(n) != api.OK {
			t.Fatalf("Norm(%s) = %s", written(a), written(n))
		}
		for _, b := range l {
			if g, want := Same(a, b), same(n, Norm(b)); g != want {
				t.Fatalf("Same(%s, %s) = %v", written(a), written(b), g)
			}
		}
	}
}

// TestOnIsAssociative is P2.8.
func TestOnIsAssociative(t *testing.T) {
	l := all(1, 3)
	compared := 0
	for _, a := range l {
		for _, b := range l {
			for _, c := range l {
				if checkAssociative(t, a, b, c) {
					compared++
				}
			}
		}
	}
	long := many(24)
	for _, a := range long {
		for _, b := range long {
			for _, c := range long {
				if checkAssociative(t, a, b, c) {
					compared++
				}
			}
		}
	}
	if compared < len(l)*len(l)*len(l) {
		t.Errorf("only %d results fit", compared)
	}
}

// checkAssociative reports whether all results fit.
func checkAssociative(t *testing.T, a, b, c api.Word) bool {
	t.Helper()
	ab, e1 := On(a, b)
	bc, e2 := On(b, c)
	if e1 != api.OK || e2 != api.OK {
		return false
	}
	left, e3 := On(ab, c)
	right, e4 := On(a, bc)
	if e3 != e4 || !same(left, right) {
		t.Fatalf("%s, %s, %s: %s and %s", written(a), written(b), written(c), written(left), written(right))
	}
	return e3 == api.OK
}

// TestNeutralElement is P2.8.
func TestNeutralElement(t *testing.T) {
	for _, a := range slices.Concat(all(3, 4), many(100)) {
		left, e1 := On(word("(1)"), a)
		right, e2 := On(a, word("(1)"))
		if e1 != api.OK || e2 != api.OK || !same(left, Norm(a)) || !same(right, Norm(a)) {
			t.Fatalf("%s: %s and %s", written(a), written(left), written(right))
		}
	}
}

// TestAndOfNot is P2.8.
func TestAndOfNot(t *testing.T) {
	for _, a := range slices.Concat(all(3, 4), many(100)) {
		if g, e := And(a, Not(a)); e != api.OK || written(g) != "(0)" {
			t.Fatalf("%s: %s, error %d", written(a), written(g), e)
		}
	}
}

// TestParseOfText is P2.8.
func TestParseOfText(t *testing.T) {
	for _, a := range slices.Concat(all(3, 4), many(100)) {
		s, e1 := Text(a)
		g, e2 := Parse(s)
		if e1 != api.OK || e2 != api.OK || !same(g, a) {
			t.Fatalf("%s: %s", s, written(g))
		}
	}
}

// flip changes all the letters of v, in place and in the rest of its memory.
func flip(v api.Word) {
	for _, l := range [][]bool{v.Head[:cap(v.Head)], v.Loop[:cap(v.Loop)]} {
		for i := range l {
			l[i] = !l[i]
		}
	}
}

// TestMemory checks the rule that a result is new memory, and that arguments stay as they are.
func TestMemory(t *testing.T) {
	for _, s := range []string{"1(01)", "(10)", "(1)", "(0)", "011(1)", "10(1010)", "0(01)", "1(0)", times("0", 60) + "(1010)"} {
		a, b := word(s), word("(1)")
		calls := []func() api.Word{
			func() api.Word { return Norm(a) },
			func() api.Word { return Not(a) },
			func() api.Word { r, _ := And(a, b); return r },
			func() api.Word { r, _ := And(b, a); return r },
			func() api.Word { r, _ := On(a, b); return r },
			func() api.Word { r, _ := On(b, a); return r },
			func() api.Word { r, _ := Shift(a, 0); return r },
			func() api.Word { r, _ := Parse(s); return r },
		}
		for i, call := range calls {
			first := call()
			want := written(first)
			_ = append(first.Head, true, true, true)
			_ = append(first.Head, false, false, false)
			if written(first) != want {
				t.Errorf("call %d of %s: Head and Loop share memory", i, s)
			}
			flip(first)
			if written(a) != s || written(b) != "(1)" || written(call()) != want {
				t.Errorf("call %d of %s: the result shares memory", i, s)
			}
		}
	}
}
