package norm

import (
	"slices"

	"synchrony/api"
	"synchrony/clone"
	"synchrony/equations"
)

// Back returns a normalized program as a program.
func Back(n api.NProgram) api.Program {
	return api.Program{Enums: clone.Map(n.Enums, clone.Enum), Nodes: clone.Map(n.Nodes, backNode)}
}

func backNode(n api.NNode) api.Node {
	types := equations.Types(n)
	back := func(x api.NEq) api.Eq { return api.Eq{Left: slices.Clone(x.Left), Right: right(x, types)} }
	return api.Node{
		Name:   n.Name,
		In:     clone.Map(n.In, clone.Decl),
		Out:    clone.Map(n.Out, clone.Decl),
		Locals: clone.Map(n.Locals, clone.Decl),
		Eqs:    clone.Map(n.Eqs, back),
	}
}

// right returns the right side that an equation stands for, in a node whose variables have the types.
func right(x api.NEq, types map[string]int) api.Expr {
	switch x.Kind {
	case api.NDelay:
		t := api.TInt
		if len(x.Left) > 0 {
			if declared, ok := types[x.Left[0]]; ok {
				t = declared
			}
		}
		return api.Expr{Kind: api.EFby, Args: []api.Expr{constant(t, x.Init), clone.Expr(x.Right)}}
	case api.NCall:
		e := api.Expr{Kind: api.ECall, Name: x.Node, Args: clone.Map(x.Args, clone.Expr)}
		if x.Every != "" {
			e.V = 1
			e.Args = append(e.Args, variable(x.Every))
		}
		return e
	case api.NWord:
		return api.Expr{Kind: api.EWord, Name: x.Node}
	}
	return clone.Expr(x.Right)
}
