package clocks

import (
	"slices"
	"strconv"

	"synchrony/api"
	"synchrony/types"
)

// textOf is different for different clocks.
func textOf(ck []api.On) string {
	s := ""
	for _, x := range ck {
		s += strconv.Quote(x.Name) + " " + strconv.Itoa(x.T) + " " + strconv.Itoa(x.Tag) + ";"
	}
	return s
}

// found finds the declared clocks of a node in its lists of variables.
type found struct{ n api.Node }

func (f found) decl(name string) (api.Decl, bool) {
	for i, l := range [][]api.Decl{f.n.In, f.n.Out, f.n.Locals} {
		for _, d := range l {
			if d.Name == name && i < 2 {
				d.Clock = nil
			}
			if d.Name == name {
				return d, true
			}
		}
	}
	return api.Decl{}, false
}

func (f found) text(name string) string {
	d, _ := f.decl(name)
	return textOf(d.Clock)
}

// placed is an expression on a clock.
type placed struct {
	e  api.Expr
	ck []api.On
}

// fits returns the first error of a list of expressions, in which the arguments take the place of each one that fits.
func (f found) fits(e api.Expr, ck []api.On) api.Errno {
	for todo := []placed{{e, ck}}; len(todo) > 0; {
		x := todo[0]
		if err := f.own(x); err != api.OK {
			return err
		}
		var inner []placed
		for i, a := range x.e.Args {
			next := slices.Clone(x.ck)
			switch x.e.Kind {
			case api.EWhen:
				next = next[:len(next)-1]
			case api.EMerge:
				next = append(next, api.On{Name: x.e.Name, T: x.e.T, Tag: i})
			}
			inner = append(inner, placed{a, next})
		}
		todo = append(inner, todo[1:]...)
	}
	return api.OK
}

func (f found) own(x placed) api.Errno {
	text := f.text(x.e.Name)
	switch x.e.Kind {
	case api.EWhen:
		text += textOf([]api.On{{Name: x.e.Name, T: x.e.T, Tag: x.e.V}})
	case api.EVar, api.EMerge:
	default:
		return api.OK
	}
	switch {
	case text != textOf(x.ck):
		return api.ErrClock
	case x.e.Kind == api.EMerge && len(x.ck) > api.MaxClock-1:
		return api.ErrLimit
	}
	return api.OK
}

// report is an error and its place.
type report struct {
	where api.Where
	e     api.Errno
}

// reports lists the first errors of all parts of a program in the order of the chapter.
func reports(p api.Program) []report {
	for _, n := range p.Nodes {
		if len(n.Autos) > 0 {
			return []report{{api.Where{Node: -1, Eq: -1}, api.ErrArg}}
		}
	}
	if where, e := types.Check(p); e != api.OK {
		return []report{{where, e}}
	}
	var l []report
	for i, n := range p.Nodes {
		add := func(eq int, e api.Errno) { l = append(l, report{api.Where{Node: i, Eq: eq}, e}) }
		f := found{n}
		for _, d := range n.Locals {
			add(-1, f.declared(d))
		}
		for k, x := range n.Eqs {
			add(k, f.equation(x))
		}
		for _, e := range slices.Concat(n.Assume, n.Ensure) {
			add(-1, f.fits(e, nil))
		}
	}
	return slices.DeleteFunc(l, func(r report) bool { return r.e == api.OK })
}

func (f found) declared(d api.Decl) api.Errno {
	before := ""
	for _, x := range d.Clock {
		if c, _ := f.decl(x.Name); c.Type != x.T || textOf(c.Clock) != before {
			return api.ErrClock
		}
		before += textOf([]api.On{x})
	}
	return api.OK
}

func (f found) equation(x api.Eq) api.Errno {
	texts := map[string]bool{}
	for _, name := range x.Left {
		texts[f.text(name)] = true
	}
	if len(texts) > 1 {
		return api.ErrClock
	}
	d, _ := f.decl(x.Left[0])
	return f.fits(x.Right, d.Clock)
}
