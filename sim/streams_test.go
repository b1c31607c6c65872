package sim

import (
	"slices"

	"synchrony/api"
	"synchrony/bword"
	"synchrony/cause"
	"synchrony/shape"
	"synchrony/stream"
)

// streams has the streams of the variables of a plain node, as far as they are known. It is a reference for executions: what layer 16 makes of whole streams.
type streams struct {
	p    api.Program
	node int
	vars map[string][]api.Cell
}

// solve returns the streams of n instants for those of the inputs. Those of n - 1 instants tell all that is delayed.
func solve(p api.Program, node int, inputs [][]api.Cell, n int) streams {
	s := streams{p, node, map[string][]api.Cell{}}
	for i, d := range p.Nodes[node].In {
		s.vars[d.Name] = inputs[i]
	}
	order, _ := cause.Order(p, node)
	for k := range n {
		for _, i := range order {
			x := p.Nodes[node].Eqs[i]
			l := s.results(x.Right, s.clockOf(x.Left[0]), k+1)
			for j, name := range x.Left {
				s.vars[name] = l[j]
			}
		}
	}
	return s
}

func (s streams) clockOf(name string) []api.On {
	for _, d := range s.p.Nodes[s.node].Locals {
		if d.Name == name {
			return d.Clock
		}
	}
	return nil
}

// on returns a stream of the base clock on another one.
func (s streams) on(a []api.Cell, ck []api.On) []api.Cell {
	for _, on := range ck {
		a = stream.When(a, s.vars[on.Name], on.Tag)
	}
	return a
}

// delayed returns a stream of n instants whose last cell does not matter if it is delayed.
func (s streams) delayed(e api.Expr, ck []api.On, n int) []api.Cell {
	return slices.Concat(s.stream(e, ck, n-1), s.on(stream.Const(0, n), ck)[n-1:])
}

// stream returns the stream of an expression on a clock for n instants.
func (s streams) stream(e api.Expr, ck []api.On, n int) []api.Cell {
	if n == 0 {
		return nil
	}
	return s.results(e, ck, n)[0]
}

// results returns the streams of the results of an expression.
func (s streams) results(e api.Expr, ck []api.On, n int) [][]api.Cell {
	arg := func(i int) []api.Cell { return s.stream(e.Args[i], ck, n) }
	one := func(a []api.Cell) [][]api.Cell { return [][]api.Cell{a} }
	switch e.Kind {
	case api.EConst:
		return one(s.on(stream.Const(e.V, n), ck))
	case api.EVar:
		return one(s.vars[e.Name][:n])
	case api.EOp:
		var args [][]api.Cell
		for i := range e.Args {
			args = append(args, arg(i))
		}
		return one(stream.Lift(e.Op, args...))
	case api.EIf:
		return one(stream.If(arg(0), arg(1), arg(2)))
	case api.EPre:
		return one(stream.Pre(s.delayed(e.Args[0], ck, n)))
	case api.EArrow:
		return one(stream.Arrow(arg(0), arg(1)))
	case api.EFby:
		return one(stream.Fby(arg(0), s.delayed(e.Args[1], ck, n)))
	case api.EWhen:
		return one(stream.When(s.stream(e.Args[0], ck[:len(ck)-1], n), s.vars[e.Name], e.V))
	case api.EMerge:
		var args [][]api.Cell
		for i, a := range e.Args {
			args = append(args, s.stream(a, append(slices.Clone(ck), api.On{Name: e.Name, T: e.T, Tag: i}), n))
		}
		return one(stream.Merge(s.vars[e.Name][:n], args...))
	case api.EWord:
		w, _ := bword.Parse(e.Name)
		return one(stream.Word(w, s.on(stream.Const(0, n), ck)))
	}
	return s.call(e, ck, n)
}

// call returns the streams of a call: the node is solved anew from each instant on at which it is reset, for the instants of the clock.
func (s streams) call(e api.Expr, ck []api.On, n int) [][]api.Cell {
	var at []int // the instants of the clock
	for i, c := range s.on(stream.Const(0, n), ck) {
		if c.Kind != api.Absent {
			at = append(at, i)
		}
	}
	args := make([][]api.Cell, len(e.Args))
	for i, a := range e.Args {
		cells := s.stream(a, ck, n)
		for _, k := range at {
			args[i] = append(args[i], cells[k])
		}
	}
	callee, _ := shape.Find(s.p, e.Name)
	out := make([][]api.Cell, len(s.p.Nodes[callee].Out))
	for i := range out {
		out[i] = make([]api.Cell, n)
	}
	for from := 0; from < len(at); {
		to := from + 1
		for to < len(at) && (e.V == 0 || args[len(args)-1][to] != truth) {
			to++
		}
		inputs := make([][]api.Cell, len(s.p.Nodes[callee].In))
		for i := range inputs {
			inputs[i] = args[i][from:to]
		}
		inner := solve(s.p, callee, inputs, to-from)
		for i, d := range s.p.Nodes[callee].Out {
			for k, c := range inner.vars[d.Name] {
				out[i][at[from+k]] = c
			}
		}
		from = to
	}
	return out
}
