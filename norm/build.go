package norm

import (
	"slices"

	"synchrony/api"
)

// mapped returns the list of what f returns for the elements of l.
func mapped[A, B any](l []A, f func(x A) B) []B {
	list := slices.Grow([]B(nil), len(l))
	for _, x := range l {
		list = append(list, f(x))
	}
	return list
}

// all reports whether each element is as asked for.
func all[A any](l []A, is func(x A) bool) bool {
	return !slices.ContainsFunc(l, func(x A) bool { return !is(x) })
}

func copyEnum(x api.Enum) api.Enum {
	x.Tags = slices.Clone(x.Tags)
	return x
}

func copyDecl(d api.Decl) api.Decl {
	d.Clock = slices.Clone(d.Clock)
	return d
}

func copyExpr(e api.Expr) api.Expr {
	e.Args = mapped(e.Args, copyExpr)
	return e
}

func constant(t, v int) api.Expr { return api.Expr{Kind: api.EConst, T: t, V: v} }

func variable(name string) api.Expr { return api.Expr{Kind: api.EVar, Name: name} }

// choice returns the conditional expression.
func choice(condition, a, b api.Expr) api.Expr {
	return api.Expr{Kind: api.EIf, Args: []api.Expr{condition, a, b}}
}

// The equations of each kind, without left sides and clocks.

func definition(right api.Expr) api.NEq { return api.NEq{Kind: api.NDef, Right: right} }

func delay(init int, right api.Expr) api.NEq {
	return api.NEq{Kind: api.NDelay, Init: init, Right: right}
}

func word(text string) api.NEq { return api.NEq{Kind: api.NWord, Node: text} }
