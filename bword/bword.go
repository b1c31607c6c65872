// Package bword is layer 2: see shared/doc/02-bword.md.
package bword

import (
	"slices"
	"strings"

	"synchrony/api"
)

// Check returns an error unless w is valid.
func Check(w api.Word) api.Errno {
	if len(w.Loop) == 0 {
		return api.ErrForm
	}
	if len(w.Head)+len(w.Loop) > api.MaxWord {
		return api.ErrLimit
	}
	return api.OK
}

func checkBoth(a, b api.Word) api.Errno {
	if e := Check(a); e != api.OK {
		return e
	}
	return Check(b)
}

// At returns letter i.
func At(w api.Word, i int) bool {
	return Check(w) == api.OK && i >= 0 && letter(w, i)
}

// letter is At for a word that has a Loop and an index that is not negative.
func letter(w api.Word, i int) bool {
	if i < len(w.Head) {
		return w.Head[i]
	}
	return w.Loop[(i-len(w.Head))%len(w.Loop)]
}

// Ones returns the number of ones among the first n letters.
func Ones(w api.Word, n int) int {
	if Check(w) != api.OK || n < 1 {
		return 0
	}
	if n <= len(w.Head) {
		return count(w.Head[:n])
	}
	rest := n - len(w.Head)
	turns, last := rest/len(w.Loop), rest%len(w.Loop)
	return count(w.Head) + turns*count(w.Loop) + count(w.Loop[:last])
}

// count returns the number of ones of a list of letters.
func count(letters []bool) int {
	n := 0
	for _, one := range letters {
		if one {
			n++
		}
	}
	return n
}

// Norm returns the shortest form of w.
func Norm(w api.Word) api.Word {
	if Check(w) != api.OK {
		return api.Word{}
	}
	return shortest(w.Head, w.Loop)
}

// Same reports whether a and b have the same letters.
func Same(a, b api.Word) bool {
	if checkBoth(a, b) != api.OK {
		return false
	}
	a, b = Norm(a), Norm(b)
	return slices.Equal(a.Head, b.Head) && slices.Equal(a.Loop, b.Loop)
}

// Not returns the word with all letters inverted.
func Not(w api.Word) api.Word {
	if Check(w) != api.OK {
		return api.Word{}
	}
	return api.Word{Head: inverted(w.Head), Loop: inverted(w.Loop)}
}

func inverted(letters []bool) []bool {
	l := make([]bool, len(letters))
	for i := range len(letters) {
		l[i] = !letters[i]
	}
	return l
}

// And returns the letter-by-letter conjunction.
func And(a, b api.Word) (api.Word, api.Errno) {
	if e := checkBoth(a, b); e != api.OK {
		return api.Word{}, e
	}
	head := max(len(a.Head), len(b.Head))
	letters := make([]bool, head+len(a.Loop)*len(b.Loop))
	for i := range len(letters) {
		letters[i] = letter(a, i) && letter(b, i)
	}
	return fitted(letters[:head], letters[head:])
}

// On returns a sampled by b: the ones of a are replaced by the letters of b, one after the other.
func On(a, b api.Word) (api.Word, api.Errno) {
	if e := checkBoth(a, b); e != api.OK {
		return api.Word{}, e
	}
	// If a's Loop has ones, each turn through it takes at least one letter of b: after len(b.Head) turns b is in its
	// Loop, and len(b.Loop) further turns take all of b's Loop a whole number of times.
	head := len(a.Head) + len(b.Head)*len(a.Loop)
	letters := make([]bool, head+len(a.Loop)*len(b.Loop))
	ones := 0
	for i := range len(letters) {
		if letter(a, i) {
			letters[i] = letter(b, ones)
			ones++
		}
	}
	return fitted(letters[:head], letters[head:])
}

// Shift returns n zeros followed by w.
func Shift(w api.Word, n int) (api.Word, api.Errno) {
	if e := Check(w); e != api.OK {
		return api.Word{}, e
	}
	if n < 0 {
		return api.Word{}, api.ErrArg
	}
	// A Loop takes up fewer zeros than it has letters, if it has a one, so that MaxWord zeros never fit before a word
	// with ones; before a word without them the number does not matter.
	head := make([]bool, min(n, api.MaxWord))
	return fitted(append(head, w.Head...), w.Loop)
}

// fitted returns the normal form of the letters of head, followed by those of loop again and again, if it fits.
func fitted(head, loop []bool) (api.Word, api.Errno) {
	w := shortest(head, loop)
	if e := Check(w); e != api.OK {
		return api.Word{}, e
	}
	return w, api.OK
}

// shortest returns the normal form of the letters of head, followed by those of loop (not empty) again and again.
func shortest(head, loop []bool) api.Word {
	loop = loop[:period(loop)]
	// The loop goes on to the left as long as the letters of head are those that it would have there.
	back := 0
	for back < len(head) && head[len(head)-1-back] == loop[len(loop)-1-back%len(loop)] {
		back++
	}
	first := len(loop) - back%len(loop)
	return api.Word{
		Head: append([]bool(nil), head[:len(head)-back]...),
		Loop: slices.Concat(loop[first:], loop[:first]),
	}
}

// period returns the least number of letters whose repetition is loop.
func period(loop []bool) int {
	for n := 1; n < len(loop); n++ {
		if len(loop)%n == 0 && repeats(loop, n) {
			return n
		}
	}
	return len(loop)
}

// repeats reports whether each letter is the one that is n letters before it.
func repeats(loop []bool, n int) bool {
	for i := range len(loop) - n {
		if loop[i] != loop[i+n] {
			return false
		}
	}
	return true
}

// Text returns the text of w.
func Text(w api.Word) (string, api.Errno) {
	if e := Check(w); e != api.OK {
		return "", e
	}
	return digits(w.Head) + "(" + digits(w.Loop) + ")", api.OK
}

func digits(letters []bool) string {
	b := make([]byte, len(letters))
	for i := range len(letters) {
		b[i] = '0'
		if letters[i] {
			b[i] = '1'
		}
	}
	return string(b)
}

// Parse returns the word with the text s.
func Parse(s string) (api.Word, api.Errno) {
	if len(s) > api.MaxWord+2 {
		return api.Word{}, api.ErrLimit
	}
	head, rest, opened := strings.Cut(s, "(")
	loop, tail, closed := strings.Cut(rest, ")")
	if !opened || !closed || tail != "" || !isDigits(head) || !isDigits(loop) {
		return api.Word{}, api.ErrForm
	}
	w := api.Word{Head: read(head), Loop: read(loop)}
	if Check(w) != api.OK {
		return api.Word{}, api.ErrForm
	}
	return w, api.OK
}

func isDigits(s string) bool {
	return strings.Trim(s, "01") == ""
}

// read returns the letters with the digits s; it is the inverse of digits.
func read(s string) []bool {
	l := make([]bool, len(s))
	for i := range len(s) {
		l[i] = s[i] == '1'
	}
	return l
}
