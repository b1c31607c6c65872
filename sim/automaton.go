package sim

// automaton is an automaton of a node.
type automaton struct {
	place  int // the index of its mode
	states []state
}

// state is a state of an automaton; from and to bound what its body keeps.
type state struct {
	unless, until []transition
	work          []work
	from, to      size
}

type transition struct {
	cond *occurrence
	to   mode
}

// execute executes the body of the state that the Unless transitions tell.
func (a *automaton) execute(in *instance) {
	m := &in.modes[a.place]
	if to, ok := taken(in, a.states[m.state].unless); ok {
		*m = to
	}
	s := a.states[m.state]
	if m.restart {
		in.resetPart(s.from, s.to)
	}
	for _, w := range s.work {
		w(in)
	}
	in.add(deciding, a.decide)
}

// decide finds out the next state by the Until transitions of the executed one.
func (a *automaton) decide(in *instance) {
	m := &in.modes[a.place]
	m.restart = false
	if to, ok := taken(in, a.states[m.state].until); ok {
		*m = to
	}
}

// taken returns where the first transition whose condition is true leads. All conditions are executed.
func taken(in *instance, l []transition) (mode, bool) {
	var to mode
	found := false
	for _, x := range l {
		if x.cond.execute(in) == truth && !found {
			to, found = x.to, true
		}
	}
	return to, found
}
