package simp

import (
	"slices"

	"synchrony/api"
	"synchrony/expr"
	"synchrony/value"
)

// The references do what the chapter says, without regard to time.

func isC(e api.Expr, t, v int) bool { return e.Kind == api.EConst && e.T == t && e.V == v }

// rule returns what a rule of folding yields, and whether it applies.
type rule func(e api.Expr) (api.Expr, bool)

// refFirst are the rules 1 to 3.
func refFirst() []rule {
	none := api.Expr{}
	return []rule{
		func(e api.Expr) (api.Expr, bool) {
			var types, values []int
			for _, a := range e.Args {
				if a.Kind != api.EConst {
					return none, false
				}
				types, values = append(types, a.T), append(values, a.V)
			}
			t, wrongType := value.Result(e.Op, types...)
			v, wrong := value.Apply(e.Op, values...)
			return api.Expr{Kind: api.EConst, T: t, V: v}, e.Kind == api.EOp && wrongType == api.OK && wrong == api.OK
		},
		func(e api.Expr) (api.Expr, bool) {
			if e.Kind != api.EIf || len(e.Args) != 3 || !isC(e.Args[0], api.TBool, 0) && !isC(e.Args[0], api.TBool, 1) {
				return none, false
			}
			return e.Args[2-e.Args[0].V], true
		},
		func(e api.Expr) (api.Expr, bool) {
			switch {
			case e.Kind != api.EIf || len(e.Args) != 3:
			case isC(e.Args[1], api.TBool, 1) && isC(e.Args[2], api.TBool, 0):
				return e.Args[0], true
			case isC(e.Args[1], api.TBool, 0) && isC(e.Args[2], api.TBool, 1):
				return api.Expr{Kind: api.EOp, Op: api.OpNot, Args: e.Args[:1]}, true
			}
			return none, false
		},
	}
}

// refLater are the rules 4 to 8.
func refLater() []rule {
	none := api.Expr{}
	is := func(e api.Expr, n int, ops ...int) bool {
		return e.Kind == api.EOp && len(e.Args) == n && slices.Contains(ops, e.Op)
	}
	other := func(e api.Expr, t, v int) (api.Expr, bool) {
		if isC(e.Args[1], t, v) {
			return e.Args[0], true
		}
		return e.Args[1], isC(e.Args[0], t, v)
	}
	return []rule{
		func(e api.Expr) (api.Expr, bool) {
			if is(e, 1, api.OpNot, api.OpNeg) && is(e.Args[0], 1, e.Op) {
				return e.Args[0].Args[0], true
			}
			return none, false
		},
		func(e api.Expr) (api.Expr, bool) {
			switch {
			case is(e, 2, api.OpAnd):
				return other(e, api.TBool, 1)
			case is(e, 2, api.OpOr, api.OpXor):
				return other(e, api.TBool, 0)
			}
			return none, false
		},
		func(e api.Expr) (api.Expr, bool) {
			switch {
			case is(e, 2, api.OpAdd):
				return other(e, api.TInt, 0)
			case is(e, 2, api.OpMul):
				return other(e, api.TInt, 1)
			case is(e, 2, api.OpSub) && isC(e.Args[1], api.TInt, 0), is(e, 2, api.OpDiv) && isC(e.Args[1], api.TInt, 1):
				return e.Args[0], true
			}
			return none, false
		},
		func(e api.Expr) (api.Expr, bool) {
			switch {
			case is(e, 2, api.OpEq):
				return other(e, api.TBool, 1)
			case is(e, 2, api.OpNe):
				return other(e, api.TBool, 0)
			}
			return none, false
		},
		func(e api.Expr) (api.Expr, bool) {
			if e.Kind == api.EWhen && len(e.Args) == 1 && e.Args[0].Kind == api.EConst {
				return e.Args[0], true
			}
			return none, false
		},
	}
}

func refFold(e api.Expr) api.Expr {
	e = deepCopy(e)
	for i, a := range e.Args {
		e.Args[i] = refFold(a)
	}
	for {
		found := false
		for _, rule := range slices.Concat(refFirst(), refLater()) {
			if r, ok := rule(e); ok && !found {
				e, found = r, true
			}
		}
		if !found {
			return e
		}
	}
}

// places returns the expressions of an equation that are read.
func places(x *api.NEq) []*api.Expr {
	l := []*api.Expr{&x.Right}
	for i := range x.Args {
		l = append(l, &x.Args[i])
	}
	return l
}

// inside returns e and the expressions in it.
func inside(e *api.Expr) []*api.Expr {
	l := []*api.Expr{e}
	for i := range e.Args {
		l = append(l, inside(&e.Args[i])...)
	}
	return l
}

// definition returns the right side of the definition of a variable that has one of a kind, and no other equation.
func definition(n api.NNode, name string, kind int) (api.Expr, bool) {
	var l []api.NEq
	for _, x := range n.Eqs {
		if slices.Contains(x.Left, name) {
			l = append(l, x)
		}
	}
	if len(l) != 1 || len(l[0].Left) != 1 || l[0].Kind != api.NDef || l[0].Right.Kind != kind {
		return api.Expr{}, false
	}
	return l[0].Right, true
}

func refConsts(n api.NNode) api.NNode {
	for {
		before := deepCopy(n)
		n = deepCopy(n)
		for i := range n.Eqs {
			x := &n.Eqs[i]
			for _, e := range places(x) {
				*e = refFold(*e)
			}
			if x.Kind == api.NDelay && x.Right.Kind == api.EConst && x.Right.V == x.Init {
				x.Kind, x.Init = api.NDef, 0
			}
		}
		known := deepCopy(n)
		for i := range n.Eqs {
			for _, e := range places(&n.Eqs[i]) {
				for _, x := range inside(e) {
					if c, ok := definition(known, x.Name, api.EConst); ok && x.Kind == api.EVar {
						c.Args = nil // otherwise a constant could contain itself
						*x = c
					}
				}
			}
		}
		if sameNode(n, before) {
			return n
		}
	}
}

func refCopies(n api.NNode) api.NNode {
	before := n
	n = deepCopy(n)
	source := func(name *string) {
		met, x := map[string]bool{}, *name
		for !met[x] {
			met[x] = true
			e, ok := definition(before, x, api.EVar)
			if !ok {
				*name = x
				return
			}
			x = e.Name
		}
	}
	clock := func(ck []api.On) {
		for i := range ck {
			source(&ck[i].Name)
		}
	}
	for i := range n.Eqs {
		x := &n.Eqs[i]
		for _, e := range places(x) {
			for _, x := range inside(e) {
				if x.Kind == api.EVar || x.Kind == api.EWhen || x.Kind == api.EMerge {
					source(&x.Name)
				}
			}
		}
		if x.Every != "" {
			source(&x.Every)
		}
		clock(x.Clock)
	}
	for _, d := range n.Locals {
		clock(d.Clock)
	}
	return n
}

func refCommon(n api.NNode) api.NNode {
	before := n
	n = deepCopy(n)
	for i, x := range before.Eqs {
		if len(x.Left) != 1 || x.Kind != api.NWord && (x.Kind != api.NDef || x.Right.Kind == api.EVar || x.Right.Kind == api.EConst) {
			continue
		}
		for _, y := range before.Eqs[:i] {
			if y.Kind == x.Kind && len(y.Left) == 1 && expr.Same(y.Right, x.Right) && y.Node == x.Node && slices.Equal(y.Clock, x.Clock) {
				n.Eqs[i] = api.NEq{Kind: api.NDef, Left: x.Left, Right: v(y.Left[0]), Clock: x.Clock}
				break
			}
		}
	}
	return n
}

// refNeeded returns whether an equation with these names on the left is needed, if those equations are.
func refNeeded(n api.NNode, left []string, needed []bool) bool {
	var read []string
	for _, d := range n.Out {
		read = append(read, d.Name)
	}
	for i, x := range n.Eqs {
		if !needed[i] {
			continue
		}
		for _, e := range places(&x) {
			read = append(read, expr.Names(*e)...)
		}
		if x.Every != "" {
			read = append(read, x.Every)
		}
		clocks := slices.Clone(x.Clock)
		for _, d := range n.Locals {
			if slices.Contains(x.Left, d.Name) {
				clocks = append(clocks, d.Clock...)
			}
		}
		for _, on := range clocks {
			read = append(read, on.Name)
		}
	}
	return slices.ContainsFunc(left, func(name string) bool { return slices.Contains(read, name) })
}

func refDead(n api.NNode) api.NNode {
	n = deepCopy(n)
	needed := make([]bool, len(n.Eqs))
	for changed := true; changed; {
		changed = false
		for i, x := range n.Eqs {
			if !needed[i] && refNeeded(n, x.Left, needed) {
				needed[i], changed = true, true
			}
		}
	}
	var eqs []api.NEq
	for i, x := range n.Eqs {
		if needed[i] {
			eqs = append(eqs, x)
		}
	}
	n.Eqs = eqs
	n.Locals = slices.DeleteFunc(n.Locals, func(d api.Decl) bool {
		return !slices.ContainsFunc(eqs, func(x api.NEq) bool { return slices.Contains(x.Left, d.Name) })
	})
	return n
}
