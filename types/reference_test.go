package types

import (
	"slices"

	"synchrony/api"
	"synchrony/scope"
	"synchrony/shape"
)

// judge finds the first error of expressions in postorder, with a stack of results.
type judge struct {
	p     api.Program
	node  int
	env   map[string]int
	stack [][]int
}

// judgeOf judges in the environment of a node.
func judgeOf(p api.Program, node int) *judge {
	j := &judge{p: p, node: node, env: map[string]int{}}
	n := p.Nodes[node]
	for _, l := range [][]api.Decl{n.Locals, n.Out, n.In} {
		for _, d := range slices.Backward(l) {
			j.env[d.Name] = d.Type
		}
	}
	return j
}

// under judges in the environment of a state.
func (j *judge) under(s api.State) *judge {
	inner := &judge{p: j.p, node: j.node, env: map[string]int{}}
	for name, t := range j.env {
		inner.env[name] = t
	}
	for _, d := range slices.Backward(s.Locals) {
		inner.env[d.Name] = d.Type
	}
	return inner
}

// wrongs are errors and whether they are there.
type wrongs []struct {
	is bool
	e  api.Errno
}

func (l wrongs) first() api.Errno {
	for _, x := range l {
		if x.is {
			return x.e
		}
	}
	return api.OK
}

// step is an expression; inner tells whether it is an argument.
type step struct {
	e     api.Expr
	inner bool
}

func postorder(e api.Expr, inner bool) []step {
	var l []step
	for _, a := range e.Args {
		l = append(l, postorder(a, true)...)
	}
	return append(l, step{e, inner})
}

func (j *judge) results(e api.Expr) ([]int, api.Errno) {
	j.stack = nil
	for _, x := range postorder(e, false) {
		if err := j.step(x); err != api.OK {
			return nil, err
		}
	}
	return j.stack[0], api.OK
}

// step puts the results of an expression in the place of those of its arguments.
func (j *judge) step(x step) api.Errno {
	n := len(j.stack) - len(x.e.Args)
	args := slices.Concat(j.stack[n:]...)
	j.stack = j.stack[:n]
	types, err := j.own(x, args)
	j.stack = append(j.stack, types)
	return err
}

func (j *judge) own(x step, args []int) ([]int, api.Errno) {
	e := x.e
	declared, ok := j.env[e.Name]
	mixed := func(l []int) bool { return len(slices.Compact(slices.Sorted(slices.Values(l)))) != 1 }
	switch e.Kind {
	case api.EConst:
		return []int{e.T}, api.OK
	case api.EVar:
		return []int{declared}, wrongs{{!ok, api.ErrName}}.first()
	case api.EOp:
		return j.operator(e.Op, args)
	case api.EIf:
		return args[1:2], wrongs{{args[0] != api.TBool || mixed(args[1:]), api.ErrType}}.first()
	case api.EPre:
		return args, api.OK
	case api.EArrow, api.EFby:
		return args[:1], wrongs{{mixed(args), api.ErrType}}.first()
	case api.EWhen:
		return args, wrongs{{!ok, api.ErrName}, {declared != e.T, api.ErrType}}.first()
	case api.EMerge:
		return args[:1], wrongs{{!ok, api.ErrName}, {declared != e.T, api.ErrType}, {mixed(args), api.ErrType}}.first()
	case api.ECall:
		return j.call(x, args)
	}
	return []int{api.TBool}, api.OK
}

func (j *judge) operator(op int, args []int) ([]int, api.Errno) {
	b, i := api.TBool, api.TInt
	want, result := []int{i, i}, b
	switch op {
	case api.OpNot:
		want = []int{b}
	case api.OpAnd, api.OpOr, api.OpXor:
		want = []int{b, b}
	case api.OpNeg:
		want, result = []int{i}, i
	case api.OpAdd, api.OpSub, api.OpMul, api.OpDiv, api.OpMod:
		result = i
	case api.OpEq, api.OpNe:
		return []int{b}, wrongs{{args[0] != args[1] || args[0] < 1, api.ErrType}}.first()
	}
	return []int{result}, wrongs{{!slices.Equal(args, want), api.ErrType}}.first()
}

func (j *judge) call(x step, args []int) ([]int, api.Errno) {
	i := slices.IndexFunc(j.p.Nodes, func(n api.Node) bool { return n.Name == x.e.Name })
	if i < 0 || i >= j.node {
		return nil, api.ErrName
	}
	var in, out []int
	for _, d := range j.p.Nodes[i].In {
		in = append(in, d.Type)
	}
	for _, d := range j.p.Nodes[i].Out {
		out = append(out, d.Type)
	}
	for range x.e.V {
		in = append(in, api.TBool)
	}
	return out, wrongs{{len(in) != len(args), api.ErrArity}, {x.inner && len(out) != 1, api.ErrArity}, {!slices.Equal(in, args), api.ErrType}}.first()
}

// ofReference is Of.
func ofReference(p api.Program, node int, e api.Expr) ([]int, api.Errno) {
	if err := shape.Expr(p.Enums, e); err != api.OK {
		return nil, err
	}
	return judgeOf(p, node).results(e)
}

// report is an error and its place.
type report struct {
	where api.Where
	e     api.Errno
}

// reports lists the first errors of all parts of a program in the order of the chapter.
func reports(p api.Program) []report {
	if where, e := scope.Check(p); e != api.OK {
		return []report{{where, e}}
	}
	var l []report
	for i, n := range p.Nodes {
		j := judgeOf(p, i)
		for k, x := range n.Eqs {
			l = append(l, report{api.Where{Node: i, Eq: k}, j.equation(x)})
		}
		all := j.automata(n.Autos)
		for _, e := range slices.Concat(n.Assume, n.Ensure) {
			all = append(all, j.condition(e))
		}
		for _, e := range all {
			l = append(l, report{api.Where{Node: i, Eq: -1}, e})
		}
	}
	return slices.DeleteFunc(l, func(r report) bool { return r.e == api.OK })
}

func (j *judge) equation(x api.Eq) api.Errno {
	types, err := j.results(x.Right)
	if err != api.OK {
		return err
	}
	var left []int
	for _, name := range x.Left {
		left = append(left, j.env[name])
	}
	return wrongs{{len(left) != len(types), api.ErrArity}, {!slices.Equal(left, types), api.ErrType}}.first()
}

func (j *judge) condition(e api.Expr) api.Errno {
	types, err := j.results(e)
	if err != api.OK {
		return err
	}
	return wrongs{{len(types) != 1, api.ErrArity}, {!slices.Equal(types, []int{api.TBool}), api.ErrType}}.first()
}

func (j *judge) automata(autos []api.Auto) []api.Errno {
	var l []api.Errno
	for _, a := range autos {
		for _, s := range a.States {
			inner := j.under(s)
			for _, x := range s.Unless {
				l = append(l, j.condition(x.Cond))
			}
			for _, x := range s.Eqs {
				l = append(l, inner.equation(x))
			}
			l = append(l, inner.automata(s.Autos)...)
			for _, x := range s.Until {
				l = append(l, inner.condition(x.Cond))
			}
		}
	}
	return l
}
