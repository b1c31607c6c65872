package bword

import (
	"slices"
	"strings"

	"synchrony/api"
)

// word returns the word that is written as s, without the help of Parse: of the form 1(01), or without a loop.
func word(s string) api.Word {
	var v api.Word
	looping := false
	for _, c := range s {
		switch {
		case c == '(':
			looping = true
		case c == ')':
		case looping:
			v.Loop = append(v.Loop, c == '1')
		default:
			v.Head = append(v.Head, c == '1')
		}
	}
	return v
}

// written is the inverse of word.
func written(v api.Word) string {
	s := ""
	for i, one := range slices.Concat(v.Head, v.Loop) {
		if i == len(v.Head) {
			s += "("
		}
		if one {
			s += "1"
		} else {
			s += "0"
		}
	}
	if len(v.Loop) > 0 {
		s += ")"
	}
	return s
}

// times returns s n times.
func times(s string, n int) string { return strings.Repeat(s, n) }

// zero reports whether v is the zero word.
func zero(v api.Word) bool { return len(v.Head) == 0 && len(v.Loop) == 0 }

// same reports whether a and b are written alike.
func same(a, b api.Word) bool {
	return slices.Equal(a.Head, b.Head) && slices.Equal(a.Loop, b.Loop)
}

// spell returns the first n letters of v.
func spell(v api.Word, n int) []bool {
	l := slices.Clone(v.Head)
	for len(l) < n {
		l = append(l, v.Loop...)
	}
	return l[:n]
}

// strings01 returns all texts of n digits.
func strings01(n int) []string {
	l := []string{""}
	for range n {
		var longer []string
		for _, s := range l {
			longer = append(longer, s+"0", s+"1")
		}
		l = longer
	}
	return l
}

// all returns every word whose Head and Loop have at most these numbers of letters.
func all(head, loop int) []api.Word {
	var l []api.Word
	for h := range head + 1 {
		for n := 1; n <= loop; n++ {
			for _, a := range strings01(h) {
				for _, b := range strings01(n) {
					l = append(l, word(a+"("+b+")"))
				}
			}
		}
	}
	return l
}

// shortestOf searches the normal form of letters (as many as decide the matter) in the order of its definition.
func shortestOf(letters []bool) api.Word {
	for loop := 1; ; loop++ {
		for head := 0; head+loop <= len(letters)/2; head++ {
			v := api.Word{Head: letters[:head], Loop: letters[head : head+loop]}
			if slices.Equal(spell(v, len(letters)), letters) {
				return v
			}
		}
	}
}

// invalid has words that are not valid, with what Check returns.
func invalid() map[api.Errno][]api.Word {
	return map[api.Errno][]api.Word{
		api.ErrForm:  {{}, word("1"), word(times("0", 65)), {Head: make([]bool, 1<<20)}},
		api.ErrLimit: {word("(" + times("0", 65) + ")"), word("1(" + times("1", 64) + ")"), word(times("1", 64) + "(0)"), {Loop: make([]bool, 1<<20)}},
	}
}
