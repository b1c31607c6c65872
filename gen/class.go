package gen

import (
	"slices"

	"synchrony/api"
	"synchrony/bword"
	"synchrony/clone"
	"synchrony/equations"
	"synchrony/fresh"
)

// generator makes the class of a node, equation by equation.
type generator struct {
	api.Class
	types map[string]int           // of the variables
	fresh func(base string) string // names the memories and instances
	first []api.Stmt               // gives the variables of delays their values
}

func class(n api.NNode) api.Class {
	types := equations.Types(n)
	used := func(name string) bool {
		_, ok := types[name]
		return ok
	}
	g := &generator{types: types, fresh: fresh.Names(used)}
	g.Name, g.In, g.Out, g.Locals = n.Name, clone.Map(n.In, port), clone.Map(n.Out, port), clone.Map(n.Locals, port)
	for _, x := range n.Eqs {
		put := under(x.Clock)
		g.Step = append(g.Step, put(g.statements(x))...)
	}
	g.Step = append(g.first, g.Step...)
	return g.Class
}

// port returns the declaration of a variable without its clock.
func port(d api.Decl) api.Decl { return api.Decl{Name: d.Name, Type: d.Type} }

// statements returns those of an equation, and adds the memory or instance that they need.
func (g *generator) statements(x api.NEq) []api.Stmt {
	switch x.Kind {
	case api.NDef:
		return []api.Stmt{assignment(left(x), x.Right)}
	case api.NDelay:
		return g.delay(x)
	case api.NCall:
		return g.call(x)
	case api.NWord:
		return g.word(x)
	}
	return nil
}

// left returns the first variable that an equation defines.
func left(x api.NEq) string {
	if len(x.Left) == 0 {
		return ""
	}
	return x.Left[0]
}

func (g *generator) delay(x api.NEq) []api.Stmt {
	memory := g.memory(g.types[left(x)], x.Init)
	g.first = append(g.first, assign(left(x), state(memory)))
	return []api.Stmt{store(memory, clone.Expr(x.Right))}
}

// memory adds a memory and returns its name.
func (g *generator) memory(t, init int) string {
	name := g.fresh("m")
	g.Mems = append(g.Mems, api.Mem{Name: name, Type: t, Init: init})
	return name
}

func (g *generator) call(x api.NEq) []api.Stmt {
	instance := g.fresh("i")
	g.Insts = append(g.Insts, api.Inst{Name: instance, Class: x.Node})
	var l []api.Stmt
	if x.Every != "" {
		reset := []api.Stmt{{Kind: api.SReset, Name: instance}}
		l = append(l, api.Stmt{Kind: api.SCase, Name: x.Every, T: api.TBool, Branches: [][]api.Stmt{nil, reset}})
	}
	return append(l, api.Stmt{Kind: api.SCall, Name: instance, Outs: slices.Clone(x.Left), Args: clone.Map(x.Args, stripped)})
}

// word returns the statements of a word, whose memory is the number of the letter, from 0 to that of the last one in Loop.
func (g *generator) word(x api.NEq) []api.Stmt {
	w, _ := bword.Parse(x.Node)
	letters := slices.Concat(w.Head, w.Loop)
	memory := g.memory(api.TInt, 0)
	last := apply(api.OpEq, state(memory), number(len(letters)-1))
	next := either(last, number(len(w.Head)), apply(api.OpAdd, state(memory), number(1)))
	return []api.Stmt{assign(left(x), letter(memory, letters, 0)), store(memory, next)}
}

// letter returns the expression of the letter whose number the memory has, if that is one of the letters from lo on.
func letter(memory string, letters []bool, lo int) api.Expr {
	if !slices.Contains(letters, !letters[0]) {
		return truth(letters[0])
	}
	half := len(letters) / 2
	mid := lo + half
	return either(apply(api.OpLt, state(memory), number(mid)), letter(memory, letters[:half], lo), letter(memory, letters[half:], mid))
}

// stripped returns e, with the argument of each sampling in its place.
func stripped(e api.Expr) api.Expr {
	for e.Kind == api.EWhen && len(e.Args) > 0 {
		e = e.Args[0]
	}
	e.Args = clone.Map(e.Args, stripped)
	return e
}
