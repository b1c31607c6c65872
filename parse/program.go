package parse

import (
	"slices"

	"synchrony/api"
	"synchrony/value"
)

func (r *reader) program() api.Program {
	for r.is("type") {
		r.room(len(r.enums), api.MaxEnums)
		r.know(r.enum())
	}
	p := api.Program{Enums: r.enums}
	for r.is("node") {
		r.room(len(p.Nodes), api.MaxNodes)
		p.Nodes = append(p.Nodes, r.node())
	}
	return p
}

func (r *reader) enum() api.Enum {
	r.expect("type")
	x := api.Enum{Name: r.ident()}
	r.expect("=")
	for more := true; more; more = r.take("|") {
		x.Tags = append(x.Tags, r.identAfter(len(x.Tags), api.MaxTags))
	}
	r.expect(";")
	return x
}

func (r *reader) node() api.Node {
	r.expect("node")
	n := api.Node{Name: r.ident()}
	r.expect("(")
	if !r.is(")") {
		n.In = r.ports()
	}
	r.expect(")")
	r.expect("returns")
	r.expect("(")
	n.Out = r.ports()
	r.expect(")")
	n.Locals = r.locals()
	r.claims(&n)
	r.expect("let")
	n.Eqs, n.Autos = r.body(0)
	r.expect("tel")
	return n
}

// ports reads declarations with semicolons between them.
func (r *reader) ports() []api.Decl {
	var l []api.Decl
	for more := true; more; more = r.take(";") {
		l = append(l, r.decl(len(l), api.MaxPorts))
	}
	return l
}

// locals reads declarations with a semicolon behind each of them, if there are any.
func (r *reader) locals() []api.Decl {
	var l []api.Decl
	for more := r.take("var"); more; more = r.isIdent() {
		l = append(l, r.decl(len(l), api.MaxLocals))
		r.expect(";")
	}
	return l
}

// decl reads an element of a list of declarations, which has n elements and room for most.
func (r *reader) decl(n, most int) api.Decl {
	d := api.Decl{Name: r.identAfter(n, most)}
	r.expect(":")
	d.Type = r.declType()
	for r.is("when") {
		r.room(len(d.Clock), api.MaxClock)
		r.skip()
		d.Clock = append(d.Clock, r.sampling())
	}
	return d
}

func (r *reader) declType() int {
	if !r.is("bool") && !r.is("int") && !r.isIdent() {
		r.fail(api.ErrForm)
	}
	t, ok := value.Type(r.enums, r.peek().Text)
	if !ok {
		r.fail(api.ErrName)
	}
	r.skip()
	return t
}

func (r *reader) claims(n *api.Node) {
	for r.is("assume") || r.is("ensure") {
		l := &n.Assume
		if r.is("ensure") {
			l = &n.Ensure
		}
		r.room(len(*l), api.MaxClaims)
		r.skip()
		*l = append(*l, r.expr())
		r.expect(";")
	}
}

// body reads equations and automata that are nested in nest automata.
func (r *reader) body(nest int) (eqs []api.Eq, autos []api.Auto) {
	for {
		switch {
		case r.isIdent() || r.is("("):
			r.room(len(eqs), api.MaxEqs)
			eqs = append(eqs, r.equation())
		case r.is("automaton"):
			r.room(nest, api.MaxNest)
			r.room(len(autos), api.MaxAutos)
			autos = append(autos, r.automaton(nest))
		default:
			return eqs, autos
		}
	}
}

func (r *reader) equation() api.Eq {
	x := api.Eq{Left: r.left()}
	r.expect("=")
	x.Right = r.expr()
	r.expect(";")
	return x
}

func (r *reader) left() []string {
	if !r.take("(") {
		return []string{r.ident()}
	}
	var l []string
	for more := true; more; more = r.take(",") {
		l = append(l, r.identAfter(len(l), api.MaxPorts))
	}
	r.expect(")")
	return l
}

// automaton reads an automaton that is nested in nest others.
func (r *reader) automaton(nest int) api.Auto {
	r.expect("automaton")
	var a api.Auto
	for r.is("state") {
		r.room(len(a.States), api.MaxStates)
		a.States = append(a.States, r.state(nest+1))
	}
	r.expect("end")
	for _, s := range a.States {
		r.resolve(s.Unless, a.States)
		r.resolve(s.Until, a.States)
	}
	return a
}

// state reads a state that is nested in nest automata, whose transitions are not resolved.
func (r *reader) state(nest int) api.State {
	r.expect("state")
	s := api.State{Name: r.ident()}
	s.Locals = r.locals()
	s.Unless = r.transitions("unless")
	r.expect("do")
	s.Eqs, s.Autos = r.body(nest)
	s.Until = r.transitions("until")
	r.expect("done")
	return s
}

// transitions reads transitions that begin with this keyword. The states that come later are not known yet, so To is the index of the token that names the target.
func (r *reader) transitions(keyword string) []api.Trans {
	var l []api.Trans
	for r.is(keyword) {
		r.room(len(l), api.MaxTrans)
		r.skip()
		x := api.Trans{Cond: r.expr(), Resume: r.is("continue")}
		if !r.take("continue") {
			r.expect("then")
		}
		x.To = r.next
		r.ident()
		r.expect(";")
		l = append(l, x)
	}
	return l
}

// resolve makes the To of the transitions, which are indices of tokens, the indices of the states that these name.
func (r *reader) resolve(l []api.Trans, states []api.State) {
	for i, x := range l {
		name := r.tokens[x.To].Text
		l[i].To = slices.IndexFunc(states, func(s api.State) bool { return s.Name == name })
		if l[i].To < 0 {
			r.failAt(x.To, api.ErrName)
		}
	}
}
