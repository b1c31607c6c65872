package bword

import (
	"math"
	"slices"
	"testing"

	"synchrony/api"
)

// operation is And or On.
type operation func(a, b api.Word) (api.Word, api.Errno)

// checkErrors checks the errors for words that are not valid and their order.
func checkErrors(t *testing.T, f operation) {
	t.Helper()
	for want, l := range invalid() {
		for _, v := range l {
			if g, e := f(v, word("(10)")); e != want || !zero(g) {
				t.Errorf("first of %d and %d letters: %s, error %d", len(v.Head), len(v.Loop), written(g), e)
			}
			if g, e := f(word("(10)"), v); e != want || !zero(g) {
				t.Errorf("second of %d and %d letters: %s, error %d", len(v.Head), len(v.Loop), written(g), e)
			}
		}
	}
	long := word("(" + times("1", 65) + ")")
	if _, e := f(word("1"), long); e != api.ErrForm {
		t.Errorf("errors ErrForm and ErrLimit: error %d", e)
	}
	if _, e := f(long, word("1")); e != api.ErrLimit {
		t.Errorf("errors ErrLimit and ErrForm: error %d", e)
	}
}

// checkTable checks rows of both arguments and the result, which is "" for ErrLimit.
func checkTable(t *testing.T, f operation, rows [][3]string) {
	t.Helper()
	for _, c := range rows {
		g, e := f(word(c[0]), word(c[1]))
		want := api.OK
		if c[2] == "" {
			want = api.ErrLimit
		}
		if e != want || written(g) != c[2] {
			t.Errorf("%s, %s: %s, error %d, want %s", c[0], c[1], written(g), e, c[2])
		}
	}
}

// checkSmall checks all small pairs of words against the letters that their first letters have together.
func checkSmall(t *testing.T, f operation, letters func(a, b []bool) []bool) {
	t.Helper()
	l := all(2, 3)
	for _, a := range l {
		for _, b := range l {
			g, e := f(a, b)
			if want := shortestOf(letters(spell(a, 64), spell(b, 64))); e != api.OK || !same(g, want) {
				t.Fatalf("%s, %s: %s, error %d, want %s", written(a), written(b), written(g), e, written(want))
			}
		}
	}
}

// many returns words of all lengths, whose letters look arbitrary.
func many(n int) []api.Word {
	seed := uint32(1)
	next := func(below int) int {
		seed = seed*1664525 + 1013904223
		return int(seed>>16) % below
	}
	var l []api.Word
	for k := range n {
		room := []int{4, 12, 24, 64}[k%4]
		loop := 1 + next(room)
		letters := make([]bool, loop+next(room-loop+1))
		rare := 2 + next(6)
		for i := range letters {
			letters[i] = next(rare) == 0
		}
		l = append(l, api.Word{Head: letters[loop:], Loop: letters[:loop]})
	}
	return l
}

// fits reports whether a valid word has these letters, of which there are enough to decide it.
func fits(letters []bool) bool {
	for loop := 1; loop <= api.MaxWord; loop++ {
		head := api.MaxWord - loop
		if slices.Equal(letters[head:len(letters)-loop], letters[head+loop:]) {
			return true
		}
	}
	return false
}

// checkMany checks many pairs of words of all lengths; the result begins to repeat before the letter 8192.
func checkMany(t *testing.T, f operation, letters func(a, b []bool) []bool) {
	t.Helper()
	l := many(60)
	for _, a := range l {
		for _, b := range l {
			want := letters(spell(a, 16384), spell(b, 16384))
			g, e := f(a, b)
			switch {
			case e == api.ErrLimit:
				if fits(want) {
					t.Fatalf("%s, %s: error %d", written(a), written(b), e)
				}
			case e != api.OK || Check(g) != api.OK || !slices.Equal(spell(g, 16384), want) || !same(Norm(g), g):
				t.Fatalf("%s, %s: %s, error %d", written(a), written(b), written(g), e)
			}
		}
	}
}

func andLetters(a, b []bool) []bool {
	l := make([]bool, len(a))
	for i := range a {
		l[i] = a[i] && b[i]
	}
	return l
}

func onLetters(a, b []bool) []bool {
	l, ones := make([]bool, len(a)), 0
	for i := range a {
		if a[i] {
			l[i] = b[ones]
			ones++
		}
	}
	return l
}

// TestAnd is P2.4.
func TestAnd(t *testing.T) {
	checkErrors(t, And)
	checkSmall(t, And, andLetters)
	checkMany(t, And, andLetters)
	checkTable(t, And, [][3]string{
		{"(10)", "(110)", "(100010)"},
		{"(1)", "101010(1010)", "(10)"},
		{"(10)", "(01)", "(0)"},
		// The Loop of the result has 7 * 9 = 63 or 8 * 9 = 72 letters.
		{"(1000000)", "(100000000)", "(1" + times("0", 62) + ")"},
		{"0(1000000)", "0(100000000)", "(01" + times("0", 61) + ")"},
		{"1(0100000)", "1(001000000)", "1(" + times("0", 29) + "1" + times("0", 33) + ")"},
		{"11(0010000)", "11(000100000)", ""},
		{"(10000000)", "(100000000)", ""},
		{"(10000000)", "(010000000)", ""},
		{"1(00000000)", "(100000000)", "1(0)"},
		// The arguments are as long as they may be.
		{"(" + times("0", 63) + "1)", "(" + times("0", 63) + ")", "(0)"},
		{times("0", 63) + "(1)", times("1", 63) + "(0)", "(0)"},
		{times("0", 63) + "(1)", "(1)", times("0", 63) + "(1)"},
		{times("0", 63) + "(1)", "(10)", ""},
		{times("0", 63) + "(1)", "(01)", times("0", 62) + "(01)"},
	})
}

// TestOn is P2.5.
func TestOn(t *testing.T) {
	checkErrors(t, On)
	checkSmall(t, On, onLetters)
	checkMany(t, On, onLetters)
	checkTable(t, On, [][3]string{
		{"(110)", "(10)", "(100)"},
		{"(10)", "0(1)", "0(01)"},
		{"1(01)", "(01)", "(0010)"},
		// The first word has finitely many ones: the second one's Loop may never be reached.
		{"1(0)", "(10)", "1(0)"},
		{"1(0)", "0(1)", "(0)"},
		{"101(0)", "11(0)", "101(0)"},
		{"(0)", "1(1)", "(0)"},
		{times("1", 63) + "(0)", "(10)", times("10", 31) + "1(0)"},
		{times("1", 63) + "(0)", "(1)", times("1", 63) + "(0)"},
		// The Loop of the result has 8 * 8 = 64 or 8 * 9 = 72 letters.
		{"(10000000)", "(10000000)", "(1" + times("0", 63) + ")"},
		{"(10000000)", "(100000000)", ""},
		{"0(10000000)", "(10000000)", "(01" + times("0", 62) + ")"},
		{"1(10000000)", "1(10000000)", ""},
		// The zeros of the second word's Head reach far.
		{"(01)", times("0", 31) + "(1)", times("0", 62) + "(01)"},
		{"(01)", times("0", 32) + "(1)", ""},
		{"(1" + times("0", 63) + ")", "1(0)", "1(0)"},
		{"(1" + times("0", 63) + ")", times("0", 63) + "(1)", ""},
		{"(1" + times("0", 63) + ")", times("0", 63) + "(0)", "(0)"},
		{"(1" + times("0", 63) + ")", "(10)", ""},
		{"(" + times("1", 64) + ")", "(" + times("01", 32) + ")", "(01)"},
	})
}

// TestShift is P2.6.
func TestShift(t *testing.T) {
	for want, l := range invalid() {
		for _, v := range l {
			for _, n := range []int{-1, 0, 1 << 40} {
				if g, e := Shift(v, n); e != want || !zero(g) {
					t.Errorf("Shift of %d and %d letters by %d: %s, error %d", len(v.Head), len(v.Loop), n, written(g), e)
				}
			}
		}
	}
	for _, n := range []int{-1, -64, math.MinInt} {
		for _, s := range []string{"(1)", "(0)", times("0", 63) + "(1)"} {
			if g, e := Shift(word(s), n); e != api.ErrArg || !zero(g) {
				t.Errorf("Shift(%s, %d): %s, error %d", s, n, written(g), e)
			}
		}
	}
	for _, v := range slices.Concat(all(2, 4), many(60)) {
		for n := range 140 {
			checkShift(t, v, n)
		}
	}
	for _, c := range []struct {
		s    string
		n    int
		want string
	}{
		{"(10)", 2, "0(01)"}, {"(10)", 1, "(01)"}, {"1(01)", 0, "(10)"}, {"(0)", 1 << 40, "(0)"}, {"00(000)", math.MaxInt, "(0)"},
		{"(1)", 63, times("0", 63) + "(1)"}, {"(1)", 64, ""}, {"(1)", 1 << 40, ""}, {"(1)", math.MaxInt, ""},
		{"1(0)", 62, times("0", 62) + "1(0)"}, {"1(0)", 63, ""}, {"1(0)", 1 << 62, ""},
		// The zeros become part of the Loop, if it has enough of them at its end.
		{"(1" + times("0", 63) + ")", 63, "(" + times("0", 63) + "1)"}, {"(1" + times("0", 63) + ")", 64, ""},
		{"(1" + times("0", 31) + ")", 63, times("0", 32) + "(" + times("0", 31) + "1)"}, {"(1" + times("0", 31) + ")", 64, ""},
		{"(1" + times("0", 63) + ")", math.MaxInt, ""},
	} {
		g, e := Shift(word(c.s), c.n)
		if (e == api.OK) != (c.want != "") || e != api.OK && e != api.ErrLimit || written(g) != c.want {
			t.Errorf("Shift(%s, %d): %s, error %d, want %s", c.s, c.n, written(g), e, c.want)
		}
	}
}

// checkShift checks Shift of v by n, which is at most 140, against the letters.
func checkShift(t *testing.T, v api.Word, n int) {
	t.Helper()
	want := slices.Concat(make([]bool, n), spell(v, 512))
	g, e := Shift(v, n)
	switch {
	case e == api.ErrLimit:
		if fits(want) {
			t.Fatalf("Shift(%s, %d): error %d", written(v), n, e)
		}
	case e != api.OK || Check(g) != api.OK || !slices.Equal(spell(g, len(want)), want) || !same(Norm(g), g):
		t.Fatalf("Shift(%s, %d): %s, error %d", written(v), n, written(g), e)
	}
}
