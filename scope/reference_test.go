package scope

import (
	"math/rand"
	"reflect"
	"slices"
	"strings"
	"testing"

	"synchrony/api"
	"synchrony/shape"
)

// report is an error and its place.
type report struct {
	where api.Where
	e     api.Errno
}

// reporter lists all errors of a program in the order of the chapter, with lists of names instead of maps.
type reporter struct {
	p     api.Program
	tags  []string
	where api.Where
	l     []report
}

func reportsOf(p api.Program) []report {
	if where, e := shape.Check(p); e != api.OK {
		return []report{{where, e}}
	}
	r := &reporter{p: p, where: api.Where{Node: -1, Eq: -1}}
	for i, x := range p.Enums {
		r.when(slices.ContainsFunc(p.Enums[:i], func(y api.Enum) bool { return y.Name == x.Name }), api.ErrTwice)
		for _, tag := range x.Tags {
			r.when(slices.Contains(r.tags, tag), api.ErrTwice)
			r.tags = append(r.tags, tag)
		}
	}
	for i, n := range p.Nodes {
		r.where = api.Where{Node: i, Eq: -1}
		r.node(n)
	}
	return r.l
}

// when adds an error if there is one.
func (r *reporter) when(wrong bool, e api.Errno) {
	if wrong {
		r.l = append(r.l, report{r.where, e})
	}
}

func namesOf(l []api.Decl) []string {
	var names []string
	for _, d := range l {
		names = append(names, d.Name)
	}
	return names
}

func (r *reporter) node(n api.Node) {
	r.when(slices.ContainsFunc(r.p.Nodes[:r.where.Node], func(m api.Node) bool { return m.Name == n.Name }), api.ErrTwice)
	in, out, own := namesOf(n.In), namesOf(n.Out), namesOf(n.Locals)
	vars := slices.Concat(in, out, own)
	for i, name := range vars {
		r.when(slices.Contains(vars[:i], name) || slices.Contains(r.tags, name), api.ErrTwice)
	}
	r.clocks(n.Locals, vars)
	before := in
	for i, x := range n.Eqs {
		r.where.Eq = i
		before = r.equation(x, vars, before)
	}
	r.where.Eq = -1
	for _, a := range n.Autos {
		r.automaton(a, vars, before)
		before = slices.Concat(before, ofAuto(a))
	}
	for _, e := range n.Assume {
		r.expr(e, in, 1)
	}
	for _, e := range n.Ensure {
		r.expr(e, slices.Concat(in, out), 1)
	}
	for _, name := range slices.Concat(out, own) {
		r.when(!slices.Contains(before, name), api.ErrNone)
	}
}

func (r *reporter) clocks(l []api.Decl, visible []string) {
	for _, d := range l {
		for _, x := range d.Clock {
			r.when(!slices.Contains(visible, x.Name), api.ErrName)
		}
	}
}

// equation returns what is defined after it.
func (r *reporter) equation(x api.Eq, visible, before []string) []string {
	for _, name := range x.Left {
		r.when(!slices.Contains(visible, name), api.ErrName)
		r.when(slices.Contains(before, name), api.ErrTwice)
		before = append(slices.Clip(before), name)
	}
	r.expr(x.Right, visible, len(x.Left))
	return before
}

func (r *reporter) expr(e api.Expr, visible []string, results int) {
	switch e.Kind {
	case api.EVar, api.EWhen, api.EMerge:
		r.when(!slices.Contains(visible, e.Name), api.ErrName)
	case api.ECall:
		i := slices.IndexFunc(r.p.Nodes[:r.where.Node], func(n api.Node) bool { return n.Name == e.Name })
		r.when(i < 0, api.ErrName)
		if i >= 0 {
			n := r.p.Nodes[i]
			r.when(len(e.Args)-e.V != len(n.In), api.ErrArity)
			r.when(len(n.Out) != results, api.ErrArity)
		}
	}
	for _, a := range e.Args {
		r.expr(a, visible, 1)
	}
}

func (r *reporter) automaton(a api.Auto, visible, before []string) {
	for i, s := range a.States {
		r.when(slices.ContainsFunc(a.States[:i], func(x api.State) bool { return x.Name == s.Name }), api.ErrTwice)
	}
	for _, s := range a.States {
		r.state(s, visible, before)
	}
	for _, s := range a.States {
		l, first := ofState(s), ofState(a.States[0])
		lacks := func(l []string) func(name string) bool {
			return func(name string) bool { return !slices.Contains(l, name) }
		}
		r.when(slices.ContainsFunc(l, lacks(first)) || slices.ContainsFunc(first, lacks(l)), api.ErrNone)
	}
}

func (r *reporter) state(s api.State, around, before []string) {
	visible := slices.Clone(around)
	for _, d := range s.Locals {
		r.when(slices.Contains(visible, d.Name) || slices.Contains(r.tags, d.Name), api.ErrTwice)
		visible = append(visible, d.Name)
	}
	r.clocks(s.Locals, visible)
	for _, x := range s.Eqs {
		before = r.equation(x, visible, before)
	}
	for _, a := range s.Autos {
		r.automaton(a, visible, before)
		before = slices.Concat(before, ofAuto(a))
	}
	for _, x := range s.Unless {
		r.expr(x.Cond, around, 1)
	}
	for _, x := range s.Until {
		r.expr(x.Cond, visible, 1)
	}
	for _, d := range s.Locals {
		r.when(!slices.Contains(ofBody(s.Eqs, s.Autos), d.Name), api.ErrNone)
	}
}

// ofBody returns the names that are defined in a node or state, from the inside to the outside, each one at its first place.
func ofBody(eqs []api.Eq, autos []api.Auto) []string {
	var all, l []string
	for _, x := range eqs {
		all = append(all, x.Left...)
	}
	for _, a := range autos {
		all = append(all, ofAuto(a)...)
	}
	for _, name := range all {
		if !slices.Contains(l, name) {
			l = append(l, name)
		}
	}
	return l
}

func ofAuto(a api.Auto) []string {
	if len(a.States) == 0 {
		return nil
	}
	return ofState(a.States[0])
}

func ofState(s api.State) []string {
	return slices.DeleteFunc(ofBody(s.Eqs, s.Autos), func(name string) bool { return slices.Contains(namesOf(s.Locals), name) })
}

// spoil makes a change somewhere in a program.
func spoil(r *rand.Rand, p *api.Program) {
	switch k := r.Intn(8); {
	case k == 0:
		spoilCall(r, p)
	case k < 3:
		spoilList(r, p)
	default:
		spoilName(r, p)
	}
}

// spoilCall makes a call have another number of arguments, or makes it a call of another node.
func spoilCall(r *rand.Rand, p *api.Program) {
	calls := slices.DeleteFunc(partsOf[api.Expr](p), func(e *api.Expr) bool { return e.Kind != api.ECall })
	if len(calls) == 0 {
		return
	}
	e := calls[r.Intn(len(calls))]
	switch n := len(e.Args); {
	case r.Intn(3) == 0:
		e.Name = p.Nodes[r.Intn(len(p.Nodes))].Name
	case n > e.V && r.Intn(2) == 0:
		e.Args = e.Args[:n-1]
	default:
		e.Args = append(e.Args, number(1))
	}
}

// spoilName makes a name another one.
func spoilName(r *rand.Rand, p *api.Program) {
	l := slices.DeleteFunc(partsOf[string](p), func(s *string) bool { return strings.Contains(*s, "(") || *s == "" }) // no words
	if len(l) > 0 {
		*l[r.Intn(len(l))] = *l[r.Intn(len(l))]
	}
}

// spoilList doubles, removes or moves an element of a list.
func spoilList(r *rand.Rand, p *api.Program) {
	var l []reflect.Value
	parts(reflect.ValueOf(p).Elem(), func(v reflect.Value) {
		if v.Kind() == reflect.Slice && v.Len() > 0 {
			l = append(l, v)
		}
	})
	if len(l) == 0 {
		return
	}
	v := l[r.Intn(len(l))]
	i, j := r.Intn(v.Len()), r.Intn(v.Len())
	switch r.Intn(3) {
	case 0:
		v.Set(reflect.AppendSlice(v.Slice(0, i), v.Slice(i+1, v.Len())))
	case 1:
		v.Set(reflect.Append(v, copyOf(v.Index(i))))
	default:
		x := copyOf(v.Index(i))
		v.Index(i).Set(copyOf(v.Index(j)))
		v.Index(j).Set(x)
	}
}

// TestCheckSpoilt is P10.1 for right programs with some changes.
func TestCheckSpoilt(t *testing.T) {
	r := rand.New(rand.NewSource(10))
	seen := map[report]int{}
	errors := map[api.Errno]int{}
	for range 6000 {
		p := somePart(r)
		for range r.Intn(4) {
			spoil(r, &p)
		}
		want := append(reportsOf(p), report{})[0]
		expectCheck(t, "a spoilt program", p, want.where, want.e)
		if t.Failed() {
			t.Fatalf("%+v", p)
		}
		seen[want]++
		errors[want.e]++
	}
	for _, e := range []api.Errno{api.OK, api.ErrTwice, api.ErrName, api.ErrArity, api.ErrNone} {
		if errors[e] < 100 {
			t.Errorf("only %d programs with the error %d", errors[e], int(e))
		}
	}
	if len(seen) < 40 {
		t.Errorf("only %d errors at different places", len(seen))
	}
}
