package fuse

import (
	"synchrony/api"
	"synchrony/clone"
)

// part is a statement; the branches of a case are here, and not in the statement.
type part struct {
	api.Stmt
	branches [][]*part
	assigns  bool // whether a case assigns the variable by which it is
}

// reader reads statements, one after the other. What it counts tells what is in a case without a search in each case around.
type reader struct {
	plain    int            // the statements so far that are no cases
	assigned map[string]int // how many of them assign a variable
}

// list returns the parts of a list, without the cases in which there are only cases: they would become empty.
func (r *reader) list(l []api.Stmt) []*part {
	var is []*part
	for _, s := range l {
		before := r.plain
		if p := r.part(s); r.plain > before {
			is = append(is, p)
		}
	}
	return is
}

func (r *reader) part(s api.Stmt) *part {
	if s.Kind != api.SCase {
		r.count(s)
		return &part{Stmt: clone.Stmt(s)}
	}
	before := r.assigned[s.Name]
	branches := clone.Map(s.Branches, r.list)
	s.Branches = nil
	return &part{Stmt: clone.Stmt(s), branches: branches, assigns: r.assigned[s.Name] > before}
}

func (r *reader) count(s api.Stmt) {
	r.plain++
	switch s.Kind {
	case api.SAssign:
		r.assigned[s.Name]++
	case api.SCall:
		for _, name := range s.Outs {
			r.assigned[name]++
		}
	}
}

// joined returns the statements of a list. Cases are combined before what is in their branches, which makes no difference, so that each branch is joined only once.
func joined(l []*part) []api.Stmt {
	var is []api.Stmt
	for len(l) > 0 {
		n := 1
		for n < len(l) && joins(l[n-1], l[n]) {
			n++
		}
		is = append(is, combined(l[:n]))
		l = l[n:]
	}
	return is
}

// joins reports whether b is combined with a, in front of it.
func joins(a, b *part) bool {
	return a.Kind == api.SCase && b.Kind == api.SCase && !a.assigns &&
		a.Name == b.Name && a.T == b.T && len(a.branches) == len(b.branches)
}

// combined returns one statement in the place of cases by the same variable, or of a single statement.
func combined(l []*part) api.Stmt {
	s := l[0].Stmt
	for i, branch := range l[0].branches {
		all := make([]*part, len(branch))
		copy(all, branch)
		for _, p := range l[1:] {
			all = append(all, p.branches[i]...)
		}
		s.Branches = append(s.Branches, joined(all))
	}
	return s
}
