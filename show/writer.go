package show

import (
	"strings"

	"synchrony/api"
)

// writer writes the lines of a program.
type writer struct {
	phrases
	text strings.Builder
}

func (w *writer) line(level int, parts ...string) {
	for range level {
		w.text.WriteString("  ")
	}
	for _, s := range parts {
		w.text.WriteString(s)
	}
	w.text.WriteByte('\n')
}

func (w *writer) enum(x api.Enum) {
	w.line(0, "type ", x.Name, " = ", strings.Join(x.Tags, " | "), ";")
}

func (w *writer) node(n api.Node) {
	w.line(0, "node ", n.Name, "(", w.decls(n.In), ") returns (", w.decls(n.Out), ")")
	w.locals(1, n.Locals)
	w.claims("assume ", n.Assume)
	w.claims("ensure ", n.Ensure)
	w.line(0, "let")
	w.body(1, n.Eqs, n.Autos)
	w.line(0, "tel")
}

func (w *writer) locals(level int, l []api.Decl) {
	if len(l) > 0 {
		w.line(level, "var ", w.decls(l), ";")
	}
}

func (w *writer) claims(keyword string, l []api.Expr) {
	for _, e := range l {
		w.line(1, keyword, w.expr(e), ";")
	}
}

func (w *writer) body(level int, eqs []api.Eq, autos []api.Auto) {
	for _, x := range eqs {
		w.line(level, w.equation(x))
	}
	for _, a := range autos {
		w.automaton(level, a)
	}
}

func (w *writer) automaton(level int, a api.Auto) {
	w.line(level, "automaton")
	for _, s := range a.States {
		w.state(level+1, s, a.States)
	}
	w.line(level, "end")
}

// state writes one of the states of an automaton.
func (w *writer) state(level int, s api.State, states []api.State) {
	w.line(level, "state ", s.Name)
	w.locals(level+1, s.Locals)
	for _, x := range s.Unless {
		w.line(level+1, "unless ", w.transition(x, states))
	}
	w.line(level, "do")
	w.body(level+1, s.Eqs, s.Autos)
	for _, x := range s.Until {
		w.line(level+1, "until ", w.transition(x, states))
	}
	w.line(level, "done")
}
