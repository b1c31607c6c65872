package obj

import (
	"slices"

	"synchrony/api"
	"synchrony/expr"
)

// Same reports whether a and b are equal.
func Same(a, b api.Objects) bool {
	return slices.EqualFunc(a.Enums, b.Enums, sameEnum) && slices.EqualFunc(a.Classes, b.Classes, sameClass)
}

func sameEnum(a, b api.Enum) bool { return a.Name == b.Name && slices.Equal(a.Tags, b.Tags) }

func sameClass(a, b api.Class) bool {
	return a.Name == b.Name &&
		slices.EqualFunc(a.In, b.In, sameDecl) &&
		slices.EqualFunc(a.Out, b.Out, sameDecl) &&
		slices.EqualFunc(a.Locals, b.Locals, sameDecl) &&
		slices.Equal(a.Mems, b.Mems) &&
		slices.Equal(a.Insts, b.Insts) &&
		sameStmts(a.Step, b.Step)
}

func sameDecl(a, b api.Decl) bool {
	return a.Name == b.Name && a.Type == b.Type && slices.Equal(a.Clock, b.Clock)
}

func sameStmts(a, b []api.Stmt) bool { return slices.EqualFunc(a, b, sameStmt) }

func sameStmt(a, b api.Stmt) bool {
	return a.Kind == b.Kind && a.Name == b.Name && a.T == b.T &&
		expr.Same(a.Right, b.Right) &&
		slices.Equal(a.Outs, b.Outs) &&
		slices.EqualFunc(a.Args, b.Args, expr.Same) &&
		slices.EqualFunc(a.Branches, b.Branches, sameStmts)
}
