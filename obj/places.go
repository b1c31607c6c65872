package obj

import (
	"slices"

	"synchrony/api"
)

// list is a list of statements: the step of a class, or a branch of a case.
type list struct {
	of       *choice // nil for the step
	branch   int
	open     bool        // whether the statement that is checked is in it
	assigned []*variable // those that have it as a place
}

// choice is a case.
type choice struct {
	by       string // the name of its variable
	branches int
	in       *list
	open     bool // whether the statement that is checked is in it
}

// place makes the list in which the statement that is checked stands a place of x.
func (k *checker) place(x *variable) {
	x.places = append(x.places, k.here)
	k.here.assigned = append(k.here.assigned, x)
}

// branches returns the first error of the branches of a case.
func (k *checker) branches(s api.Stmt) api.Errno {
	c := &choice{by: s.Name, branches: len(s.Branches), in: k.here, open: true}
	_, decided := k.context[s.Name]
	for i, l := range s.Branches {
		if !decided {
			k.context[s.Name] = i
		}
		k.here = &list{of: c, branch: i, open: true}
		if e := k.statements(l); e != api.OK {
			return e
		}
		k.here.open = false
	}
	if !decided {
		delete(k.context, s.Name)
	}
	k.close(c)
	return api.OK
}

// close goes on behind a case, all of whose branches have been checked.
func (k *checker) close(c *choice) {
	last := k.here
	k.here, c.open = c.in, false
	for _, x := range last.assigned {
		first := len(x.places) - c.branches
		inside := func(place *list) bool { return place.of == c }
		// An assignment in each branch is as good as one behind the case, and needs less time later.
		if first >= 0 && all(x.places[first:], inside) {
			x.places = x.places[:first]
			k.place(x)
		}
	}
}

// way leads to a list from another one that contains it: the branches that contain it, from the outermost one to itself.
type way []*list

// ways returns those to the places of x that come before the statement that is checked.
func (k *checker) ways(x *variable) []way {
	var ways []way
	for _, place := range x.places {
		if w, ok := place.way(); ok {
			ways = append(ways, w)
		}
	}
	return ways
}

// way returns the way to l from the innermost list that contains l and the statement that is checked. There is none from one branch of a case to another.
func (l *list) way() (way, bool) {
	var w way
	for ; !l.open; l = l.of.in {
		if l.of.open {
			return nil, false
		}
		w = append(w, l)
	}
	slices.Reverse(w)
	return w, true
}

// assigned reports whether x is assigned before the statement that is checked.
func (k *checker) assigned(x *variable) bool {
	return x.input || assigns(k.ways(x), k.context, true)
}

// assignable reports whether x can be assigned before the statement that is checked.
func (k *checker) assignable(x *variable) bool {
	return assigns(k.ways(x), k.context, false)
}

// assigns reports whether an assignment to which one of the ways leads is executed under the context: in each branch of a case that is not decided (always), or in one of them. Ways by the same case are neighbours.
func assigns(ways []way, context map[string]int, always bool) bool {
	for len(ways) > 0 {
		if len(ways[0]) == 0 {
			return true
		}
		c, n := ways[0][0].of, 1
		for n < len(ways) && len(ways[n]) > 0 && ways[n][0].of == c {
			n++
		}
		if c.assigns(ways[:n], context, always) {
			return true
		}
		ways = ways[n:]
	}
	return false
}

// assigns does the same for ways by the case c.
func (c *choice) assigns(ways []way, context map[string]int, always bool) bool {
	if k, ok := context[c.by]; ok {
		return assigns(behind(ways, k), context, always)
	}
	defer delete(context, c.by)
	for k := range c.branches {
		context[c.by] = k
		if assigns(behind(ways, k), context, always) != always {
			return !always
		}
	}
	return always
}

// behind returns what is behind a branch of the ways by it.
func behind(ways []way, branch int) []way {
	var l []way
	for _, w := range ways {
		if w[0].branch == branch {
			l = append(l, w[1:])
		}
	}
	return l
}
