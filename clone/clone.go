// Package clone copies what package api has, so that neither the copy nor any two parts of it share memory with something else.
package clone

import (
	"slices"

	"synchrony/api"
)

// Map returns the list of what f returns for the elements of l.
func Map[A, B any](l []A, f func(x A) B) []B {
	list := slices.Grow([]B(nil), len(l))
	for _, x := range l {
		list = append(list, f(x))
	}
	return list
}

func Enum(x api.Enum) api.Enum {
	x.Tags = slices.Clone(x.Tags)
	return x
}

func Decl(d api.Decl) api.Decl {
	d.Clock = slices.Clone(d.Clock)
	return d
}

func Expr(e api.Expr) api.Expr {
	e.Args = Map(e.Args, Expr)
	return e
}

func Eq(x api.Eq) api.Eq {
	x.Left, x.Right = slices.Clone(x.Left), Expr(x.Right)
	return x
}

func NEq(x api.NEq) api.NEq {
	x.Left, x.Clock = slices.Clone(x.Left), slices.Clone(x.Clock)
	x.Right, x.Args = Expr(x.Right), Map(x.Args, Expr)
	return x
}

func NNode(n api.NNode) api.NNode {
	n.In, n.Out, n.Locals = Map(n.In, Decl), Map(n.Out, Decl), Map(n.Locals, Decl)
	n.Eqs = Map(n.Eqs, NEq)
	return n
}

func Stmt(s api.Stmt) api.Stmt {
	s.Right, s.Args = Expr(s.Right), Map(s.Args, Expr)
	s.Outs = slices.Clone(s.Outs)
	s.Branches = Map(s.Branches, Stmts)
	return s
}

func Stmts(l []api.Stmt) []api.Stmt { return Map(l, Stmt) }

func Class(c api.Class) api.Class {
	c.In, c.Out, c.Locals = Map(c.In, Decl), Map(c.Out, Decl), Map(c.Locals, Decl)
	c.Mems, c.Insts = slices.Clone(c.Mems), slices.Clone(c.Insts)
	c.Step = Stmts(c.Step)
	return c
}

func Objects(o api.Objects) api.Objects {
	o.Enums, o.Classes = Map(o.Enums, Enum), Map(o.Classes, Class)
	return o
}

func Routine(r api.Routine) api.Routine {
	r.In, r.Out = slices.Clone(r.In), slices.Clone(r.Out)
	r.Init, r.Code = slices.Clone(r.Init), slices.Clone(r.Code)
	return r
}

func Image(im api.Image) api.Image {
	im.Enums, im.Routines = slices.Clone(im.Enums), Map(im.Routines, Routine)
	return im
}
