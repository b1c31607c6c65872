package sched

import (
	"synchrony/api"
	"synchrony/equations"
)

// schedule is an order of the equations of a node, as far as it is built.
type schedule struct {
	api.NNode
	order   []int
	listed  []bool           // whether an equation is in the order
	clocks  []int            // for each equation, a number that those on the same clock have, too
	open    map[string]int   // how many definitions of a variable are waited for
	readers map[string][]int // the equations that wait for the definitions of a variable
	missing []int            // for each equation, how many variables it waits for
}

// begin returns an empty order of the equations of a node.
func begin(n api.NNode) *schedule {
	s := &schedule{
		NNode:   n,
		listed:  make([]bool, len(n.Eqs)),
		clocks:  numbers(n.Eqs),
		open:    map[string]int{},
		readers: map[string][]int{},
		missing: make([]int, len(n.Eqs)),
	}
	for _, x := range s.Eqs {
		for _, name := range awaited(x) {
			s.open[name]++
		}
	}
	for i, x := range s.Eqs {
		for _, name := range equations.Reads(x) {
			if s.open[name] > 0 {
				s.readers[name] = append(s.readers[name], i)
				s.missing[i]++
			}
		}
	}
	return s
}

// awaited returns the variables whose readers wait for an equation that defines them.
func awaited(x api.NEq) []string {
	if x.Kind == api.NDelay {
		return nil
	}
	return x.Left
}

// ready reports whether an equation waits for none that is not in the order.
func (s *schedule) ready(i int) bool { return s.missing[i] == 0 }

// next returns the equation that comes next, if there is one.
func (s *schedule) next() (int, bool) {
	first := -1
	for i := range s.Eqs {
		if s.listed[i] || !s.ready(i) {
			continue
		}
		if s.continues(i) {
			return i, true
		}
		if first < 0 {
			first = i
		}
	}
	return max(first, 0), first >= 0
}

// continues reports whether an equation is on the clock of the last one in the order.
func (s *schedule) continues(i int) bool {
	last := len(s.order) - 1
	return last >= 0 && s.clocks[i] == s.clocks[s.order[last]]
}

func (s *schedule) append(i int) {
	s.order = append(s.order, i)
	s.listed[i] = true
	for _, name := range awaited(s.Eqs[i]) {
		s.open[name]--
		if s.open[name] == 0 {
			for _, reader := range s.readers[name] {
				s.missing[reader]--
			}
		}
	}
}
