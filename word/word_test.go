package word

import (
	"math"
	"math/big"
	"slices"
	"testing"
)

// samples has numbers at and around the ends of the type int, of its multiples and of Go's int.
func samples() []int {
	l := []int{math.MinInt, math.MinInt + 1, math.MaxInt - 1, math.MaxInt, 7, -7, 300, -300, 181, 182, 12345, -12345}
	for _, middle := range []int{0, 256, -256, 32768, -32768, 65536, -65536, 98304, 1 << 31, -1 << 31, 1 << 32, 1 << 47, -1 << 62} {
		for n := middle - 2; n <= middle+2; n++ {
			l = append(l, n)
		}
	}
	return l
}

// exact wraps a number of any size, by its definition.
func exact(n *big.Int) int {
	m := new(big.Int).Mod(n, big.NewInt(65536)).Int64()
	if m > 32767 {
		m -= 65536
	}
	return int(m)
}

func wide(n int) *big.Int { return big.NewInt(int64(n)) }

func TestIn(t *testing.T) {
	for n, want := range map[int]bool{
		0: true, -1: true, 32767: true, 32768: false, -32768: true, -32769: false,
		65536: false, -65536: false, math.MaxInt: false, math.MinInt: false,
	} {
		if In(n) != want {
			t.Errorf("In(%d) = %v", n, !want)
		}
	}
}

// TestRange is P1.1.
func TestRange(t *testing.T) {
	check := func(name string, n int) {
		if n < -32768 || n > 32767 {
			t.Errorf("%s: %d is not of the type int", name, n)
		}
	}
	for _, a := range samples() {
		check("Wrap", Wrap(a))
		check("Neg", Neg(a))
		check("Of", Of(Bits(a)))
		for _, b := range samples() {
			check("Add", Add(a, b))
			check("Sub", Sub(a, b))
			check("Mul", Mul(a, b))
			check("Div", Div(a, b))
			check("Mod", Mod(a, b))
		}
	}
}

// TestCongruence is P1.2; a value of the type int is determined by what it is congruent to.
func TestCongruence(t *testing.T) {
	for _, a := range samples() {
		if g, w := Wrap(a), exact(wide(a)); g != w {
			t.Errorf("Wrap(%d) = %d, want %d", a, g, w)
		}
		if g, w := Neg(a), exact(new(big.Int).Neg(wide(a))); g != w {
			t.Errorf("Neg(%d) = %d, want %d", a, g, w)
		}
		for _, b := range samples() {
			if g, w := Add(a, b), exact(new(big.Int).Add(wide(a), wide(b))); g != w {
				t.Errorf("Add(%d, %d) = %d, want %d", a, b, g, w)
			}
			if g, w := Sub(a, b), exact(new(big.Int).Sub(wide(a), wide(b))); g != w {
				t.Errorf("Sub(%d, %d) = %d, want %d", a, b, g, w)
			}
			if g, w := Mul(a, b), exact(new(big.Int).Mul(wide(a), wide(b))); g != w {
				t.Errorf("Mul(%d, %d) = %d, want %d", a, b, g, w)
			}
		}
	}
}

func TestWrapOfAllValues(t *testing.T) {
	for n := -32768; n <= 32767; n++ {
		if Wrap(n) != n || Wrap(n+65536) != n || Wrap(n-65536) != n || !In(n) {
			t.Fatalf("Wrap of %d and of what is congruent to it", n)
		}
	}
}

// TestDivision is P1.3, with what the chapter says of the quotient and of the remainder's sign.
func TestDivision(t *testing.T) {
	for _, a := range samples() {
		for _, b := range samples() {
			checkDivision(t, a, b)
		}
	}
	for a := -32768; a <= 32767; a++ {
		for _, b := range []int{-32768, -300, -2, -1, 0, 1, 2, 3, 10, 32767} {
			checkDivision(t, a, b)
		}
	}
}

func checkDivision(t *testing.T, a, b int) {
	t.Helper()
	q, r := Div(a, b), Mod(a, b)
	m, n := exact(wide(a)), exact(wide(b))
	if n == 0 {
		if q != 0 || r != m {
			t.Errorf("by 0: Div(%d, %d) = %d, Mod = %d", a, b, q, r)
		}
		return
	}
	if g := Add(Mul(q, b), r); g != m {
		t.Errorf("Div(%d, %d) = %d, Mod = %d: together %d", a, b, q, r, g)
	}
	quotient, rest := new(big.Int).QuoRem(wide(m), wide(n), new(big.Int))
	if q != exact(quotient) || r != exact(rest) {
		t.Errorf("Div(%d, %d) = %d, Mod = %d, want %v, %v", a, b, q, r, quotient, rest)
	}
}

func TestDivisionExamples(t *testing.T) {
	for _, x := range []struct{ a, b, q, r int }{
		{-7, 2, -3, -1}, {7, -2, -3, 1}, {-7, -2, 3, -1}, {7, 0, 0, 7}, {-32768, -1, -32768, 0}, {5, -1, -5, 0},
		{7, 65536, 0, 7}, {65543, 0, 0, 7}, {32768, 65535, -32768, 0}, {0, 0, 0, 0}, {0, -5, 0, 0}, {-32768, 32767, -1, -1},
	} {
		if q, r := Div(x.a, x.b), Mod(x.a, x.b); q != x.q || r != x.r {
			t.Errorf("Div(%d, %d) = %d, Mod = %d, want %d, %d", x.a, x.b, q, r, x.q, x.r)
		}
	}
}

// TestBits is P1.4: sixteen elements stand for each value, and each value for sixteen elements.
func TestBits(t *testing.T) {
	for m := range 65536 {
		want := make([]bool, 16)
		for i := range want {
			want[i] = m/(1<<i)%2 == 1
		}
		n := m
		if want[15] {
			n -= 65536
		}
		if g := Bits(n); !slices.Equal(g, want) {
			t.Fatalf("Bits(%d) = %v, want %v", n, g, want)
		}
		if g := Of(want); g != n {
			t.Fatalf("Of(%v) = %d, want %d", want, g, n)
		}
	}
}

func TestBitsWrap(t *testing.T) {
	for _, n := range samples() {
		if g, w := Bits(n), Bits(exact(wide(n))); !slices.Equal(g, w) {
			t.Errorf("Bits(%d) = %v, want %v", n, g, w)
		}
	}
}

func TestOfOtherLengths(t *testing.T) {
	ones := slices.Repeat([]bool{true}, 16)
	for _, x := range []struct {
		b    []bool
		want int
	}{
		{nil, 0}, {[]bool{}, 0}, {[]bool{true, false, true}, 5}, {ones[:15], 32767}, {ones, -1},
		{slices.Concat(ones, []bool{true, false, true}), -1},
		{slices.Concat(make([]bool, 16), ones, ones, ones, ones, ones), 0},
		{slices.Concat(make([]bool, 15), ones[:1]), -32768},
	} {
		if g := Of(x.b); g != x.want {
			t.Errorf("Of(%v) = %d, want %d", x.b, g, x.want)
		}
	}
}

func TestBitsAreNewMemory(t *testing.T) {
	a, b := Bits(5), Bits(5)
	a[0] = false
	if !b[0] || !Bits(5)[0] {
		t.Error("two results share memory")
	}
	given := []bool{true, false, true}
	Of(given)
	if !slices.Equal(given, []bool{true, false, true}) {
		t.Errorf("Of changed its argument to %v", given)
	}
}

// TestBitwiseSum is P1.5.
func TestBitwiseSum(t *testing.T) {
	for _, n := range slices.Concat(samples(), []int{-32768, 0, 1, -1, 32767}) {
		checkBitwiseSum(t, n)
	}
	for n := -32768; n <= 32767; n++ {
		checkBitwiseSum(t, n)
	}
}

func checkBitwiseSum(t *testing.T, n int) {
	t.Helper()
	inverted := Bits(n)
	for i := range inverted {
		inverted[i] = !inverted[i]
	}
	if g, w := Bits(Add(Of(inverted), 1)), Bits(Neg(n)); !slices.Equal(g, w) {
		t.Errorf("n = %d: %v, want %v", n, g, w)
	}
}
