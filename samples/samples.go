// Package samples makes programs and inputs for the tests of the layers.
package samples

import (
	"synchrony/api"
	"synchrony/value"
)

// Choose returns a number from 0 on and below n. All that is made depends on such choices only.
type Choose func(n int) int

func pick[T any](choose Choose, l ...T) T { return l[choose(len(l))] }

// shuffle puts a list in some order.
func shuffle[T any](choose Choose, l []T) {
	for i := range l {
		k := choose(i + 1)
		l[i], l[k] = l[k], l[i]
	}
}

// order returns the numbers below n in some order.
func order(choose Choose, n int) []int {
	l := make([]int, n)
	for i := range l {
		l[i] = i
	}
	shuffle(choose, l)
	return l
}

// Enums returns enumerations with different numbers of tags.
func Enums() []api.Enum {
	return []api.Enum{
		{Name: "E", Tags: []string{"P", "Q", "R"}},
		{Name: "F", Tags: []string{"S"}},
		{Name: "G", Tags: []string{"T", "U", "V", "W", "X"}},
	}
}

// Row returns values of the types of the inputs; numbers are small.
func Row(choose Choose, enums []api.Enum, in []api.Decl) []int {
	var l []int
	for _, d := range in {
		if d.Type == api.TInt {
			l = append(l, choose(7)-3)
		} else {
			l = append(l, choose(value.Size(enums, d.Type)))
		}
	}
	return l
}

// Rows returns some instants of inputs.
func Rows(choose Choose, enums []api.Enum, in []api.Decl, n int) [][]int {
	var rows [][]int
	for range n {
		rows = append(rows, Row(choose, enums, in))
	}
	return rows
}
