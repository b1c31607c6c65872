package fuse

import (
	"math/rand"
	"slices"
	"testing"

	"synchrony/api"
)

// The references do what the chapter says, word by word.

func refAssigns(s api.Stmt, name string) bool {
	switch s.Kind {
	case api.SAssign:
		return s.Name == name
	case api.SCall:
		return slices.Contains(s.Outs, name)
	case api.SCase:
		for _, branch := range s.Branches {
			for _, s := range branch {
				if refAssigns(s, name) {
					return true
				}
			}
		}
	}
	return false
}

func refEmpty(s api.Stmt) bool {
	return s.Kind == api.SCase && !slices.ContainsFunc(s.Branches, func(l []api.Stmt) bool { return len(l) > 0 })
}

func refJoin(l []api.Stmt) []api.Stmt {
	var is []api.Stmt
	for _, s := range l {
		if s.Kind != api.SCase {
			is = append(is, s)
			continue
		}
		var branches [][]api.Stmt
		for _, branch := range s.Branches {
			branches = append(branches, refJoin(branch))
		}
		s.Branches = branches
		if refEmpty(s) {
			continue
		}
		if len(is) > 0 {
			last := &is[len(is)-1]
			if last.Kind == api.SCase && last.Name == s.Name && last.T == s.T && len(last.Branches) == len(s.Branches) && !refAssigns(*last, last.Name) {
				for i := range s.Branches {
					last.Branches[i] = refJoin(slices.Concat(last.Branches[i], s.Branches[i]))
				}
				continue
			}
		}
		is = append(is, s)
	}
	return is
}

// refCases returns all cases in a list.
func refCases(l []api.Stmt) []api.Stmt {
	var cases []api.Stmt
	for _, s := range l {
		if s.Kind == api.SCase {
			cases = append(cases, s)
			for _, branch := range s.Branches {
				cases = append(cases, refCases(branch)...)
			}
		}
	}
	return cases
}

// executed returns the statements, without the cases, that are executed if the variables have the values. No branch is executed if there is none for a value.
func executed(l []api.Stmt, values map[string]int) []api.Stmt {
	var is []api.Stmt
	for _, s := range l {
		if s.Kind != api.SCase {
			is = append(is, s)
		} else if i := values[s.Name]; i < len(s.Branches) {
			is = append(is, executed(s.Branches[i], values)...)
		}
	}
	return is
}

// anyList makes lists of any statements; each one has a number, so that no two of them are equal.
type anyList struct {
	*rand.Rand
	names []string
	count int
}

func (r *anyList) list(depth, n int) []api.Stmt {
	var l []api.Stmt
	for range r.Intn(n + 1) {
		l = append(l, r.statement(depth))
	}
	return l
}

func (r *anyList) statement(depth int) api.Stmt {
	r.count++
	right := number(r.count)
	if depth > 0 && r.Intn(4) > 0 {
		s := typed(pick(r.Rand, 1, 1, 1, 1, 3), by(pick(r.Rand, r.names...)))
		for range pick(r.Rand, 2, 2, 2, 2, 1, 3, 0) {
			s.Branches = append(s.Branches, r.list(depth-1, 4))
		}
		if r.Intn(20) == 0 { // fields that a case does not have
			s.Right, s.Outs, s.Args = right, []string{pick(r.Rand, r.names...)}, []api.Expr{right}
		}
		return s
	}
	name := pick(r.Rand, append(r.names, "x", "x", "y", "y")...)
	switch r.Intn(9) {
	case 0:
		return store(name, right)
	case 1:
		return call(name, "y "+name, right)
	case 2:
		return call(name, "", right, right)
	case 3:
		s := reset(name)
		s.T = r.count
		return s
	case 4: // a statement of another kind, or with fields that its kind does not have
		s := api.Stmt{Kind: pick(r.Rand, 0, 6, -1, api.SAssign, api.SStore), Name: name, T: r.count, Right: right}
		if depth > 0 {
			s.Branches = [][]api.Stmt{r.list(depth-1, 2), r.list(depth-1, 2)}
		}
		return s
	}
	return set(pick(r.Rand, "x", "y", name), right)
}

// TestAny is P24.1, P24.2 and P24.3 for any lists.
func TestAny(t *testing.T) {
	random := rand.New(rand.NewSource(1))
	before, after, kept := 0, 0, 0
	for range 4000 {
		r := &anyList{Rand: random, names: []string{"b", "c", "d"}[:1+random.Intn(3)]}
		l := r.list(1+r.Intn(4), 6)
		expectJoin(t, "any list", l, refJoin(l))
		is := Join(l)
		if n := len(refCases(l)); Cases(l) != n || Cases(is) > n {
			t.Errorf("of %d cases in %v, of which there are %d, there are still %d", Cases(l), l, n, Cases(is))
		}
		if slices.ContainsFunc(refCases(is), refEmpty) {
			t.Errorf("%v has an empty case", is)
		}
		for range 8 {
			values := map[string]int{}
			for _, name := range r.names {
				values[name] = r.Intn(3)
			}
			if a, b := executed(l, values), executed(is, values); !same(a, b) {
				t.Errorf("with %v, %v is executed, and then %v", values, a, b)
			}
		}
		before, after = before+Cases(l), after+Cases(is)
		if n := len(is); n > 1 && slices.ContainsFunc(is[:n-1], func(s api.Stmt) bool { return s.Kind == api.SCase && refAssigns(s, s.Name) }) {
			kept++
		}
		if t.Failed() {
			return
		}
	}
	if after > before*4/5 || before < 50000 || kept < 1000 {
		t.Errorf("of %d cases there are still %d; %d times one has assigned its variable", before, after, kept)
	}
}
