package accept

import (
	"synchrony/api"
	"synchrony/cause"
	"synchrony/clocks"
	"synchrony/modes"
	"synchrony/starts"
	"synchrony/types"
)

// The checks, in the order in which they are executed.
const (
	ofTypes = iota
	ofAutomata
	ofClocks
	ofStarts
	ofCauses
	numberOfChecks
)

// candidate is a program that is checked.
type candidate struct {
	program api.Program
	plain   api.Program // the expanded program, from the check of the automata on
}

// check returns the error of the first check that has one.
func (c *candidate) check() (api.Where, api.Errno) {
	checks := [numberOfChecks]func() (api.Where, api.Errno){
		ofTypes:    c.types,
		ofAutomata: c.automata,
		ofClocks:   c.clocks,
		ofStarts:   c.starts,
		ofCauses:   c.causes,
	}
	for _, check := range checks {
		if where, e := check(); e != api.OK {
			return where, e
		}
	}
	return api.Where{}, api.OK
}

func (c *candidate) types() (api.Where, api.Errno) { return types.Check(c.program) }

// automata expands the program.
func (c *candidate) automata() (api.Where, api.Errno) {
	var e api.Errno
	c.plain, e = modes.Expand(c.program)
	return api.Where{Node: -1, Eq: -1}, e
}

func (c *candidate) clocks() (api.Where, api.Errno) { return clocks.Check(c.plain) }

func (c *candidate) starts() (api.Where, api.Errno) { return starts.Check(c.plain) }

func (c *candidate) causes() (api.Where, api.Errno) { return cause.Check(c.plain) }
