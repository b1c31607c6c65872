package sim

import (
	"slices"

	"synchrony/api"
	"synchrony/scope"
)

// plan is what the instances of a node execute. It is never changed after it was made.
type plan struct {
	in, out        []api.Decl     // they have the first slots, in this order
	slots          map[string]int // where the cells of the variables are
	work           []work
	assume, ensure []*equation
	size           size
}

// size tells how many of each kind the instances of a node have, or how many of them belong to its first parts.
type size struct{ cells, kept, inner, modes int }

// planner makes the plans of nodes.
type planner struct {
	nodes []api.Node
	plans map[string]*plan // of the nodes that are called
}

// called returns the plan of the node with this name, of which claims are not considered.
func (m *planner) called(name string) *plan {
	if m.plans[name] == nil {
		i := slices.IndexFunc(m.nodes, func(n api.Node) bool { return n.Name == name })
		m.plans[name] = m.plan(m.nodes[i], false)
	}
	return m.plans[name]
}

// plan returns the plan of a node.
func (m *planner) plan(n api.Node, claims bool) *plan {
	p := &plan{in: ports(n.In), out: ports(n.Out), slots: map[string]int{}}
	b := body{m, &p.size, map[string]visible{}}
	b.declare(scope.Vars(n))
	for name, v := range b.vars {
		p.slots[name] = v.slot
	}
	p.work = b.work(n.Eqs, n.Autos)
	if claims {
		p.assume, p.ensure = b.claims(n.Assume), b.claims(n.Ensure)
	}
	for _, x := range slices.Concat(p.assume, p.ensure) {
		p.work = append(p.work, x.execute)
	}
	return p
}

// ports returns declarations of inputs or outputs, which have no clocks.
func ports(l []api.Decl) []api.Decl {
	var ports []api.Decl
	for _, d := range l {
		ports = append(ports, api.Decl{Name: d.Name, Type: d.Type})
	}
	return ports
}

// part is an equation or an automaton: the slots of what it defines and reads at an instant.
type part struct {
	defines, reads []int
	do             work
}

// ordered returns the work of the parts, each one after those that define what it reads.
func ordered(parts []part) []work {
	definer := map[int]int{}
	for i, x := range parts {
		for _, slot := range x.defines {
			definer[slot] = i
		}
	}
	var l []work
	visited := make([]bool, len(parts))
	var visit func(i int)
	visit = func(i int) {
		if visited[i] {
			return
		}
		visited[i] = true
		for _, slot := range parts[i].reads {
			if k, ok := definer[slot]; ok {
				visit(k)
			}
		}
		l = append(l, parts[i].do)
	}
	for i := range parts {
		visit(i)
	}
	return l
}
