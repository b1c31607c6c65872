package starts

import (
	"slices"

	"synchrony/api"
	"synchrony/bword"
	"synchrony/value"
)

// What an instance reports. Only the first one is possible in a program that Check accepts.
const (
	undefined = "a variable is undefined"
	notLate   = "a variable that is not late is undefined"
	again     = "a variable is undefined after its first instant"
	used      = "an input, an output, a clock variable or a claim is undefined"
)

// instance executes a node of a plain program as the section Semantics describes it. No variable may depend on itself.
type instance struct {
	p       api.Program
	index   int
	count   map[*api.Expr]int // how often each occurrence was executed
	kept    map[*api.Expr]api.Cell
	inner   map[*api.Expr]*instance
	was     map[string]int // at how many instants each variable was there
	report  func(what string)
	cells   map[string]api.Cell // of this instant
	delayed []func()            // what is executed at the end of this instant
}

func newInstance(p api.Program, index int, report func(what string)) *instance {
	return &instance{p: p, index: index, count: map[*api.Expr]int{}, kept: map[*api.Expr]api.Cell{}, inner: map[*api.Expr]*instance{}, was: map[string]int{}, report: report}
}

func (in *instance) node() api.Node { return in.p.Nodes[in.index] }

// step executes an instant and returns the outputs.
func (in *instance) step(inputs []api.Cell) []api.Cell {
	n := in.node()
	in.cells = map[string]api.Cell{}
	for i, d := range n.In {
		in.cells[d.Name] = inputs[i]
	}
	for _, x := range n.Eqs {
		in.variable(x.Left[0])
	}
	for _, l := range [][]api.Expr{n.Assume, n.Ensure} {
		for i := range l {
			if c := in.exec(&l[i], nil)[0]; c.Kind == api.Undef {
				in.report(used)
			}
		}
	}
	for len(in.delayed) > 0 {
		f := in.delayed[0]
		in.delayed = in.delayed[1:]
		f()
	}
	in.look()
	var out []api.Cell
	for _, d := range n.Out {
		out = append(out, in.cells[d.Name])
	}
	return out
}

// look reports what the variables of the node are at this instant.
func (in *instance) look() {
	n := in.node()
	late, _ := Late(in.p, in.index)
	for _, d := range slices.Concat(n.In, n.Out, n.Locals) {
		switch in.cells[d.Name].Kind {
		case api.Absent:
			continue
		case api.Undef:
			in.report(undefined)
			if !slices.Contains(late, d.Name) {
				in.report(notLate)
			}
			if in.was[d.Name] > 0 {
				in.report(again)
			}
			if isUsed(n, d.Name) {
				in.report(used)
			}
		}
		in.was[d.Name]++
	}
}

// isUsed reports whether a variable is an input, an output or a clock variable.
func isUsed(n api.Node, name string) bool {
	named := func(d api.Decl) bool { return d.Name == name }
	sampled := func(d api.Decl) bool {
		return slices.ContainsFunc(d.Clock, func(on api.On) bool { return on.Name == name })
	}
	return slices.ContainsFunc(n.In, named) || slices.ContainsFunc(n.Out, named) || slices.ContainsFunc(n.Locals, sampled)
}

// variable returns the cell of a variable; its equation is executed before, if it was not yet.
func (in *instance) variable(name string) api.Cell {
	if c, ok := in.cells[name]; ok {
		return c
	}
	n := in.node()
	var ck []api.On
	for _, d := range n.Locals {
		if d.Name == name {
			ck = d.Clock
		}
	}
	for i, x := range n.Eqs {
		if slices.Contains(x.Left, name) {
			l := in.exec(&n.Eqs[i].Right, ck)
			for k, left := range x.Left {
				in.cells[left] = l[k]
			}
		}
	}
	return in.cells[name]
}

func (in *instance) active(ck []api.On) bool {
	for _, on := range ck {
		if in.variable(on.Name) != (api.Cell{Kind: api.Present, V: on.Tag}) {
			return false
		}
	}
	return true
}

// args executes the arguments of e, those that are delayed at the end of the instant.
func (in *instance) args(e *api.Expr, ck []api.On) []api.Cell {
	l := make([]api.Cell, len(e.Args))
	for i := range e.Args {
		on := ck
		switch e.Kind {
		case api.EWhen:
			on = ck[:len(ck)-1]
		case api.EMerge:
			on = append(slices.Clone(ck), api.On{Name: e.Name, T: e.T, Tag: i})
		}
		if e.Kind == api.EPre || e.Kind == api.EFby && i == 1 {
			in.delayed = append(in.delayed, func() {
				if c := in.exec(&e.Args[i], on)[0]; in.active(on) {
					in.kept[e] = c
				}
			})
			continue
		}
		l[i] = in.exec(&e.Args[i], on)[0]
	}
	return l
}

// exec executes an occurrence on a clock and returns its cells: several ones for a call of a node with several outputs.
func (in *instance) exec(e *api.Expr, ck []api.On) []api.Cell {
	l := in.args(e, ck)
	if e.Kind == api.ECall {
		return in.call(e, ck, l)
	}
	if !in.active(ck) {
		return []api.Cell{{}}
	}
	defer func() { in.count[e]++ }()
	return []api.Cell{in.cell(e, l)}
}

func (in *instance) call(e *api.Expr, ck []api.On, l []api.Cell) []api.Cell {
	i := slices.IndexFunc(in.p.Nodes, func(n api.Node) bool { return n.Name == e.Name })
	if !in.active(ck) {
		return make([]api.Cell, len(in.p.Nodes[i].Out))
	}
	if in.inner[e] == nil || e.V == 1 && l[len(l)-1].V == 1 {
		in.inner[e] = newInstance(in.p, i, in.report)
	}
	return in.inner[e].step(l)
}

// cell returns the cell of an occurrence that is executed, for the cells of its arguments.
func (in *instance) cell(e *api.Expr, l []api.Cell) api.Cell {
	first := in.count[e] == 0
	switch e.Kind {
	case api.EConst:
		return api.Cell{Kind: api.Present, V: e.V}
	case api.EVar:
		return in.variable(e.Name)
	case api.EOp:
		return value.Lift(e.Op, l...)
	case api.EPre:
		if first {
			return api.Cell{Kind: api.Undef}
		}
		return in.kept[e]
	case api.EFby:
		if !first {
			return in.kept[e]
		}
	case api.EArrow:
		if !first {
			return l[1]
		}
	case api.EIf:
		return chosen(l[0], l[2], l[1])
	case api.EMerge:
		return chosen(in.variable(e.Name), l...)
	case api.EWord:
		w, _ := bword.Parse(e.Name)
		if bword.At(w, in.count[e]) {
			return api.Cell{Kind: api.Present, V: 1}
		}
		return api.Cell{Kind: api.Present}
	}
	return l[0]
}

// chosen returns the cell for the value of c.
func chosen(c api.Cell, l ...api.Cell) api.Cell {
	if c.Kind == api.Undef {
		return c
	}
	return l[c.V]
}
