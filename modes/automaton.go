package modes

import (
	"slices"

	"synchrony/api"
	"synchrony/clone"
)

// automaton is an automaton while it is replaced.
type automaton struct {
	*expansion
	owner   *api.Node  // the node that has it, which gets locals and equations
	vars    []api.Decl // the variables of the node, without those that are added
	states  []api.State
	mode    int        // the type of the enumeration of the states
	defined []api.Decl // the variables that it defines
}

func (a *automaton) local(base string, t int, clock ...api.On) string {
	name := a.fresh(base)
	a.owner.Locals = append(a.owner.Locals, api.Decl{Name: name, Type: t, Clock: clock})
	return name
}

func (a *automaton) equation(right api.Expr, left ...string) {
	a.owner.Eqs = append(a.owner.Eqs, define(right, left...))
}

// on returns the sampling by a variable that is the index of a state.
func (a *automaton) on(name string, state int) api.On {
	return api.On{Name: name, T: a.mode, Tag: state}
}

// target returns the index of the state to which a transition leads.
func (a *automaton) target(x api.Trans) api.Expr { return constant(a.mode, x.To) }

// merge returns the merge, by a variable that is the index of a state, of the arguments for all states.
func (a *automaton) merge(name string, arg func(state int) api.Expr) api.Expr {
	e := api.Expr{Kind: api.EMerge, Name: name, T: a.mode}
	for i := range a.states {
		e.Args = append(e.Args, arg(i))
	}
	return e
}

// replace adds locals and equations to the node that has the automaton, and returns the bodies of the states.
func (a *automaton) replace() []api.Node {
	was, flag := a.local("was", a.mode), a.local("flag", api.TBool)
	condition := func(x api.Trans) string { return a.local("cond", api.TBool) }
	conditions := clone.Map(a.states, func(s api.State) []string { return clone.Map(s.Unless, condition) })
	now, reset := a.local("now", a.mode), a.local("reset", api.TBool)
	var bodies []api.Node
	var results [][]string // for each body, the variables that get its outputs
	for i, s := range a.states {
		bodies = append(bodies, a.body(i, s))
		results = append(results, a.results(a.on(now, i)))
	}
	next, back := a.local("next", a.mode), a.local("back", api.TBool)

	a.equation(initially(a.mode, next), was)
	a.equation(initially(api.TBool, back), flag)
	a.choose(conditions, was, flag, now, reset)
	for i, b := range bodies {
		a.equation(call(b, reset, a.on(now, i)), results[i]...)
	}
	for i, name := range append(clone.Map(a.defined, nameOf), next, back) {
		a.equation(a.merge(now, func(state int) api.Expr { return variable(results[state][i]) }), name)
	}
	return bodies
}

// choose defines the conditions of the Unless transitions, the state that is executed now, and whether it is reset.
func (a *automaton) choose(conditions [][]string, was, flag, now, reset string) {
	for i, s := range a.states {
		for k, x := range s.Unless {
			a.equation(clone.Expr(x.Cond), conditions[i][k])
		}
	}
	decide := func(value func(x api.Trans) api.Expr, ending func(state int) api.Expr) api.Expr {
		return a.merge(was, func(state int) api.Expr {
			condition := func(k int) api.Expr { return sampled(conditions[state][k], a.on(was, state)) }
			return conditional(a.states[state].Unless, condition, value, ending(state))
		})
	}
	a.equation(decide(a.target, func(state int) api.Expr { return constant(a.mode, state) }), now)
	a.equation(decide(restarts, func(state int) api.Expr { return sampled(flag, a.on(was, state)) }), reset)
}

// results adds the variables that get the outputs of the body of a state.
func (a *automaton) results(on api.On) []string {
	names := clone.Map(a.defined, func(d api.Decl) string { return a.local("part", d.Type, on) })
	return append(names, a.local("next", a.mode, on), a.local("back", api.TBool, on))
}

// call returns the call of a body, with the inputs and the reset condition sampled.
func call(b api.Node, reset string, on api.On) api.Expr {
	names := append(clone.Map(b.In, nameOf), reset)
	return api.Expr{Kind: api.ECall, Name: b.Name, V: 1, Args: clone.Map(names, func(name string) api.Expr { return sampled(name, on) })}
}

// body returns the node that is called when the state s, whose index is i, is executed.
func (a *automaton) body(i int, s api.State) api.Node {
	b := api.Node{Name: a.fresh("body"), In: a.inputs(s), Autos: s.Autos}
	next, back := a.fresh("next"), a.fresh("back")
	b.Out = append(clone.Map(a.defined, onBase), api.Decl{Name: next, Type: a.mode}, api.Decl{Name: back, Type: api.TBool})
	b.Locals = clone.Map(s.Locals, clone.Decl)
	b.Eqs = clone.Map(s.Eqs, clone.Eq)
	var conditions []string
	for _, x := range s.Until {
		name := a.fresh("cond")
		conditions = append(conditions, name)
		b.Locals = append(b.Locals, api.Decl{Name: name, Type: api.TBool})
		b.Eqs = append(b.Eqs, define(clone.Expr(x.Cond), name))
	}
	condition := func(k int) api.Expr { return variable(conditions[k]) }
	b.Eqs = append(b.Eqs,
		define(conditional(s.Until, condition, a.target, constant(a.mode, i)), next),
		define(conditional(s.Until, condition, restarts, constant(api.TBool, 0)), back))
	return b
}

// inputs returns the declarations of the variables that the body of a state reads and the automaton does not define.
func (a *automaton) inputs(s api.State) []api.Decl {
	read, defined := nameSet{}, nameSet{}
	read.addRead(s)
	defined.add(clone.Map(a.defined, nameOf)...)
	inner := func(d api.Decl) bool { return defined.has(d.Name) || !read.has(d.Name) }
	return clone.Map(slices.DeleteFunc(slices.Clone(a.vars), inner), onBase)
}
