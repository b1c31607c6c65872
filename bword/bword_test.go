package bword

import (
	"math"
	"slices"
	"testing"

	"synchrony/api"
)

// TestCheck is P2.1.
func TestCheck(t *testing.T) {
	for _, s := range []string{"(0)", "(1)", "1(01)", "(" + times("0", 64) + ")", times("1", 63) + "(0)", times("1", 32) + "(" + times("0", 32) + ")"} {
		if e := Check(word(s)); e != api.OK {
			t.Errorf("Check(%s): error %d", s, e)
		}
	}
	for want, l := range invalid() {
		for _, v := range l {
			if e := Check(v); e != want {
				t.Errorf("Check of %d and %d letters: error %d, want %d", len(v.Head), len(v.Loop), e, want)
			}
		}
	}
}

// TestAt is P2.2.
func TestAt(t *testing.T) {
	for _, v := range all(3, 4) {
		for i, want := range spell(v, 40) {
			if At(v, i) != want {
				t.Fatalf("At(%s, %d) = %v", written(v), i, !want)
			}
		}
	}
	for _, c := range []struct {
		s    string
		i    int
		want bool
	}{
		{"1(01)", math.MaxInt, false}, {"1(01)", math.MaxInt - 1, true}, {"(1)", math.MaxInt, true},
		{"1(1)", -1, false}, {"1(1)", math.MinInt, false},
		{times("0", 63) + "(1)", 62, false}, {times("0", 63) + "(1)", 63, true},
	} {
		if At(word(c.s), c.i) != c.want {
			t.Errorf("At(%s, %d) = %v", c.s, c.i, !c.want)
		}
	}
	for _, s := range []string{"", "111", times("1", 64) + "(1)", "(" + times("1", 65) + ")"} {
		for _, i := range []int{0, 1, 63, 64, 1 << 40} {
			if At(word(s), i) {
				t.Errorf("At(%s, %d)", s, i)
			}
		}
	}
}

// TestOnes is P2.2.
func TestOnes(t *testing.T) {
	for _, v := range all(3, 4) {
		n := 0
		for i, one := range spell(v, 40) {
			if g := Ones(v, i); g != n {
				t.Fatalf("Ones(%s, %d) = %d, want %d", written(v), i, g, n)
			}
			if one {
				n++
			}
		}
	}
	for _, c := range []struct {
		s       string
		n, want int
	}{
		{"1(01)", 5, 3}, {"(1)", 1 << 62, 1 << 62}, {"(1)", math.MaxInt, math.MaxInt}, {"0(1)", math.MaxInt, math.MaxInt - 1},
		{"(10)", math.MaxInt, 1 << 62}, {"11(0)", math.MaxInt, 2}, {"(110)", 1 << 40, 733007751851},
		{"1(1)", 0, 0}, {"1(1)", -1, 0}, {"1(1)", math.MinInt, 0}, {"1(1)", 1, 1},
	} {
		if g := Ones(word(c.s), c.n); g != c.want {
			t.Errorf("Ones(%s, %d) = %d, want %d", c.s, c.n, g, c.want)
		}
	}
	for _, s := range []string{"", "111", times("1", 64) + "(1)", "(" + times("1", 65) + ")"} {
		for _, n := range []int{1, 3, 1 << 40} {
			if g := Ones(word(s), n); g != 0 {
				t.Errorf("Ones(%s, %d) = %d", s, n, g)
			}
		}
	}
}

// TestNorm is P2.3.
func TestNorm(t *testing.T) {
	for _, v := range all(4, 5) {
		if g, want := Norm(v), shortestOf(spell(v, 48)); !same(g, want) {
			t.Fatalf("Norm(%s) = %s, want %s", written(v), written(g), written(want))
		}
	}
	for _, c := range [][2]string{
		{"10(1010)", "(10)"}, {"(11)", "(1)"}, {"0(0)", "(0)"}, {"1(01)", "(10)"}, {"011(1)", "0(1)"}, {"0(10)", "(01)"},
		{"1101(101101)", "(110)"}, {"1(0)", "1(0)"}, {"(" + times("10", 32) + ")", "(10)"}, {times("1", 63) + "(1)", "(1)"},
		{"(" + times("0", 63) + "1)", "(" + times("0", 63) + "1)"}, {times("1", 63) + "(0)", times("1", 63) + "(0)"},
		{"(110110)", "(110)"}, {"(101101)", "(101)"}, {"(11011)", "(11011)"},
	} {
		if g := Norm(word(c[0])); written(g) != c[1] {
			t.Errorf("Norm(%s) = %s, want %s", c[0], written(g), c[1])
		}
	}
	for _, l := range invalid() {
		for _, v := range l {
			if g := Norm(v); !zero(g) {
				t.Errorf("Norm of %d and %d letters = %s", len(v.Head), len(v.Loop), written(g))
			}
		}
	}
}

// TestSame is P2.3.
func TestSame(t *testing.T) {
	l := all(2, 3)
	for _, a := range l {
		for _, b := range l {
			if g, want := Same(a, b), slices.Equal(spell(a, 40), spell(b, 40)); g != want {
				t.Fatalf("Same(%s, %s) = %v", written(a), written(b), g)
			}
		}
	}
	// These differ in their last letters only.
	if Same(word("("+times("0", 63)+"1)"), word("(0)")) || Same(word(times("0", 62)+"1(0)"), word("(0)")) {
		t.Error("Same of words that differ late")
	}
	for _, l := range invalid() {
		for _, v := range l {
			if Same(v, v) || Same(v, word("(0)")) || Same(word("(0)"), v) {
				t.Errorf("Same of %d and %d letters", len(v.Head), len(v.Loop))
			}
		}
	}
}

// TestNot is P2.4.
func TestNot(t *testing.T) {
	for _, c := range [][2]string{{"1(01)", "0(10)"}, {"(11)", "(00)"}, {"00(00)", "11(11)"}, {times("1", 60) + "(0001)", times("0", 60) + "(1110)"}} {
		if g := Not(word(c[0])); written(g) != c[1] {
			t.Errorf("Not(%s) = %s, want %s", c[0], written(g), c[1])
		}
	}
	for _, l := range invalid() {
		for _, v := range l {
			if g := Not(v); !zero(g) {
				t.Errorf("Not of %d and %d letters = %s", len(v.Head), len(v.Loop), written(g))
			}
		}
	}
}
