package sched

import "synchrony/api"

// longer is what a clock with a number becomes with one sampling more.
type longer struct {
	clock int
	on    api.On
}

// numbers returns a number for the clock of each equation; clocks that are the same have the same number.
func numbers(eqs []api.NEq) []int {
	known := map[longer]int{}
	l := make([]int, len(eqs))
	for i, x := range eqs {
		for _, on := range x.Clock {
			key := longer{l[i], on}
			if known[key] == 0 {
				known[key] = len(known) + 1
			}
			l[i] = known[key]
		}
	}
	return l
}
