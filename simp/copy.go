package simp

import (
	"slices"

	"synchrony/api"
)

// mapped returns the list of what f returns for the elements of l.
func mapped[A, B any](l []A, f func(x A) B) []B {
	list := slices.Grow([]B(nil), len(l))
	for _, x := range l {
		list = append(list, f(x))
	}
	return list
}

func copyEnum(x api.Enum) api.Enum {
	x.Tags = slices.Clone(x.Tags)
	return x
}

func copyNode(n api.NNode) api.NNode {
	n.In, n.Out, n.Locals = mapped(n.In, copyDecl), mapped(n.Out, copyDecl), mapped(n.Locals, copyDecl)
	n.Eqs = mapped(n.Eqs, copyEq)
	return n
}

func copyDecl(d api.Decl) api.Decl {
	d.Clock = slices.Clone(d.Clock)
	return d
}

func copyEq(x api.NEq) api.NEq {
	x.Left, x.Clock = slices.Clone(x.Left), slices.Clone(x.Clock)
	x.Right, x.Args = copyExpr(x.Right), mapped(x.Args, copyExpr)
	return x
}

func copyExpr(e api.Expr) api.Expr {
	e.Args = mapped(e.Args, copyExpr)
	return e
}
