// Package word is layer 1: see shared/doc/01-word.md.
package word

import "synchrony/api"

const width = 16

// In reports whether n is a value of the type int.
func In(n int) bool { return n >= api.MinInt && n <= api.MaxInt }

// Wrap returns the value of the type int that is congruent to n modulo 65536.
func Wrap(n int) int { return int(int16(n)) }

// Neg returns -a.
func Neg(a int) int { return Wrap(-Wrap(a)) }

// Add returns a + b.
func Add(a, b int) int { return Wrap(Wrap(a) + Wrap(b)) }

// Sub returns a - b.
func Sub(a, b int) int { return Wrap(Wrap(a) - Wrap(b)) }

// Mul returns a * b.
func Mul(a, b int) int { return Wrap(Wrap(a) * Wrap(b)) }

// Div returns the quotient a / b, truncated towards zero, and 0 if b is 0.
func Div(a, b int) int {
	a, b = Wrap(a), Wrap(b)
	if b == 0 {
		return 0
	}
	return Wrap(a / b)
}

// Mod returns the remainder of a / b, which has the sign of a, and a if b is 0.
func Mod(a, b int) int {
	a, b = Wrap(a), Wrap(b)
	if b == 0 {
		return a
	}
	return a % b
}

// Bits returns the sixteen bits of n, the least significant one first.
func Bits(n int) []bool {
	var bits [width]bool
	for i := range width {
		bits[i] = n>>i&1 == 1
	}
	return bits[:]
}

// Of returns the value with the bits b; those that are missing are false, those after the first sixteen are ignored.
func Of(b []bool) int {
	n := 0
	for i := range min(len(b), width) {
		if b[i] {
			n |= 1 << i
		}
	}
	return Wrap(n)
}
