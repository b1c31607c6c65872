package modes

import (
	"synchrony/api"
	"synchrony/clone"
	"synchrony/scope"
)

// expansion is the program that results, as far as it is built.
type expansion struct {
	fresh func(base string) string // adds a name
	enums []api.Enum
	nodes []api.Node
}

// node adds the nodes that result from expanding n, which becomes a part of the result.
func (x *expansion) node(n api.Node) {
	vars, autos := scope.Vars(n), n.Autos
	n.Autos = nil
	var bodies []api.Node
	for _, a := range autos {
		bodies = append(bodies, x.automaton(&n, vars, a).replace()...)
	}
	for _, b := range bodies {
		x.node(b)
	}
	x.nodes = append(x.nodes, n)
}

// automaton adds the enumeration of an automaton of n. The variables of n are those that n had at the beginning.
func (x *expansion) automaton(n *api.Node, vars []api.Decl, a api.Auto) *automaton {
	types := map[string]int{}
	for _, d := range vars {
		types[d.Name] = d.Type
	}
	typed := func(name string) api.Decl { return api.Decl{Name: name, Type: types[name]} }
	return &automaton{
		expansion: x,
		owner:     n,
		vars:      vars,
		states:    a.States,
		mode:      x.enum(len(a.States)),
		defined:   clone.Map(scope.Defined(api.Node{Autos: []api.Auto{a}}), typed),
	}
}

// enum adds an enumeration of n values, and returns its type.
func (x *expansion) enum(n int) int {
	e := api.Enum{Name: x.fresh("mode")}
	for range n {
		e.Tags = append(e.Tags, x.fresh("at"))
	}
	x.enums = append(x.enums, e)
	return api.TEnum + len(x.enums) - 1
}
