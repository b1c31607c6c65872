package parse

import (
	"math/rand"
	"slices"
	"strconv"
	"strings"

	"synchrony/api"
)

// writer makes programs, and writes them as tokens, with brackets where the grammar needs them, and sometimes elsewhere.
type writer struct {
	r     *rand.Rand
	enums []api.Enum
}

// list has n elements or fewer.
func list[T any](w writer, least, most int, element func() T) []T {
	var l []T
	for range least + w.r.Intn(most-least+1) {
		l = append(l, element())
	}
	return l
}

func (w writer) chance(n int) bool { return w.r.Intn(n) == 0 }

func (w writer) name() string { return "v" + strconv.Itoa(w.r.Intn(5)) }

func (w writer) program() api.Program {
	n := 0
	p := api.Program{Enums: list(w, 0, 3, func() api.Enum {
		return api.Enum{Name: "E" + strconv.Itoa(w.r.Intn(100)), Tags: list(w, 1, 4, func() string {
			n++
			return "T" + strconv.Itoa(n)
		})}
	})}
	for i := range p.Enums {
		p.Enums[i].Name += "_" + strconv.Itoa(i)
	}
	w.enums = p.Enums
	p.Nodes = list(w, 0, 3, w.node)
	return p
}

func (w writer) node() api.Node {
	decl := func() api.Decl { return api.Decl{Name: w.name(), Type: 1 + w.r.Intn(2+len(w.enums))} }
	claim := func() api.Expr { return w.expr(3) }
	return api.Node{
		Name: w.name(), In: list(w, 0, 3, decl), Out: list(w, 1, 3, decl), Locals: list(w, 0, 3, w.local),
		Eqs: list(w, 0, 4, w.eq), Autos: list(w, 0, 2, func() api.Auto { return w.auto(1) }), Assume: list(w, 0, 2, claim), Ensure: list(w, 0, 2, claim),
	}
}

func (w writer) local() api.Decl {
	d := api.Decl{Name: w.name(), Type: 1 + w.r.Intn(2+len(w.enums))}
	d.Clock = list(w, 0, 4, func() api.On {
		t, v := w.tag()
		return api.On{Name: w.name(), T: t, Tag: v}
	})
	return d
}

func (w writer) eq() api.Eq {
	x := api.Eq{Left: list(w, 1, 3, w.name), Right: w.expr(4)}
	if len(x.Left) > 1 {
		x.Right = api.Expr{Kind: api.ECall, Name: w.name(), Args: list(w, 0, 3, func() api.Expr { return w.expr(3) })}
	}
	return x
}

func (w writer) auto(depth int) api.Auto {
	var a api.Auto
	n := 1 + w.r.Intn(3)
	trans := func(stateless bool) func() api.Trans {
		return func() api.Trans {
			e := w.expr(3)
			if stateless {
				e = apply(api.OpNot, variable(w.name()))
			}
			return api.Trans{Cond: e, To: w.r.Intn(n), Resume: w.chance(2)}
		}
	}
	for i := range n {
		s := api.State{Name: "S" + strconv.Itoa(i), Locals: list(w, 0, 2, w.local), Eqs: list(w, 0, 2, w.eq), Unless: list(w, 0, 2, trans(true)), Until: list(w, 0, 2, trans(false))}
		if depth < api.MaxNest && w.chance(3) {
			s.Autos = list(w, 1, 2, func() api.Auto { return w.auto(depth + 1) })
		}
		a.States = append(a.States, s)
	}
	return a
}

// tag returns a type and value that have a tag.
func (w writer) tag() (int, int) {
	if i := w.r.Intn(1 + len(w.enums)); i > 0 {
		return api.TEnum + i - 1, w.r.Intn(len(w.enums[i-1].Tags))
	}
	return api.TBool, w.r.Intn(2)
}

func (w writer) expr(depth int) api.Expr {
	t, v := w.tag()
	if depth == 1 {
		switch w.r.Intn(4) {
		case 0:
			return valueOf(t, v)
		case 1:
			return number(w.r.Intn(65536) - 32768)
		case 2:
			return periodic([]string{"(1)", "1(01)"}[v%2])
		}
		return variable(w.name())
	}
	args := func(n int) []api.Expr { return list(w, n, n, func() api.Expr { return w.expr(1 + w.r.Intn(depth-1)) }) }
	switch w.r.Intn(10) {
	case 0:
		return apply(api.OpNot, args(1)...)
	case 1:
		return apply(api.OpNeg, args(1)...)
	case 2:
		return with(api.EIf, args(3)...)
	case 3:
		return with(api.EPre, args(1)...)
	case 4:
		return with([]int{api.EArrow, api.EFby}[v%2], args(2)...)
	case 5:
		return when(args(1)[0], w.name(), t, v)
	case 6:
		n := 2
		if t >= api.TEnum {
			n = len(w.enums[t-api.TEnum].Tags)
		}
		return merge(w.name(), t, args(n)...)
	case 7:
		e := call(w.name(), args(w.r.Intn(3))...)
		e.V = w.r.Intn(min(1, len(e.Args)) + 1)
		return e
	}
	return apply(api.OpAnd+w.r.Intn(14), args(2)...)
}

// The nonterminals of the grammar, as levels: what a level permits, those below it permit, too.
const (
	atExpr = iota
	atOr
	atAnd
	atNot
	atCmp
	atSum
	atProd
	atUn
	atPost
	atPrimary
)

// symbol returns the text of an operator with two operands, and its level.
func symbol(op int) (string, int) {
	s := strings.Fields("and or xor + - * / mod = <> < <= > >=")[op-api.OpAnd]
	switch {
	case op == api.OpAnd:
		return s, atAnd
	case op <= api.OpXor:
		return s, atOr
	case op <= api.OpSub:
		return s, atSum
	case op <= api.OpMod:
		return s, atProd
	}
	return s, atCmp
}

// tokens writes e where the grammar wants a level; last means that nothing follows that an if at the end of e would take.
func (w writer) tokens(e api.Expr, level int, last bool) []string {
	l, is := w.bare(e, last)
	if is < level || e.Kind == api.EIf && !last || w.chance(12) {
		l, _ = w.bare(e, true)
		return slices.Concat([]string{"("}, l, []string{")"})
	}
	return l
}

// bare writes e without brackets around it, and returns its level.
func (w writer) bare(e api.Expr, last bool) ([]string, int) {
	two := func(left int, s string, right int) []string {
		return slices.Concat(w.tokens(e.Args[0], left, false), []string{s}, w.tokens(e.Args[1], right, last))
	}
	one := func(s string, level int) []string { return append([]string{s}, w.tokens(e.Args[0], level, last)...) }
	switch e.Kind {
	case api.EConst:
		return w.value(e.T, e.V), atPrimary
	case api.EOp:
		switch {
		case e.Op == api.OpNot:
			return one("not", atNot), atNot
		case e.Op == api.OpNeg:
			l := one("-", atUn)
			if l[1][0] >= '0' && l[1][0] <= '9' {
				l = slices.Concat([]string{"-", "("}, w.tokens(e.Args[0], atExpr, true), []string{")"})
			}
			return l, atUn
		}
		s, level := symbol(e.Op)
		if level == atCmp {
			return two(level+1, s, level+1), level
		}
		return two(level, s, level+1), level
	case api.EPre:
		return one("pre", atUn), atUn
	case api.EArrow:
		return two(atOr, "->", atExpr), atExpr
	case api.EFby:
		return two(atOr, "fby", atExpr), atExpr
	case api.EWhen:
		return slices.Concat(w.tokens(e.Args[0], atPost, false), []string{"when"}, w.value(e.T, e.V), []string{"(", e.Name, ")"}), atPost
	}
	return w.primary(e, last), atPrimary
}

func (w writer) primary(e api.Expr, last bool) []string {
	whole := func(i int) []string { return w.tokens(e.Args[i], atExpr, true) }
	switch e.Kind {
	case api.EIf:
		return slices.Concat([]string{"if"}, whole(0), []string{"then"}, whole(1), []string{"else"}, w.tokens(e.Args[2], atExpr, last))
	case api.EMerge:
		l := []string{"merge", e.Name}
		for i := range e.Args {
			if e.T == api.TBool {
				i = 1 - i
			}
			l = slices.Concat(l, []string{"("}, w.value(e.T, i), []string{"->"}, whole(i), []string{")"})
		}
		return l
	case api.ECall:
		l := []string{e.Name, "("}
		for i := range len(e.Args) - e.V {
			if i > 0 {
				l = append(l, ",")
			}
			l = append(l, whole(i)...)
		}
		l = append(l, ")")
		if e.V == 1 {
			l = slices.Concat(l, []string{"every"}, w.tokens(e.Args[len(e.Args)-1], atPrimary, last))
		}
		return l
	case api.EWord:
		return []string{"'" + e.Name + "'"}
	}
	return []string{e.Name}
}

func (w writer) value(t, v int) []string {
	switch {
	case t == api.TBool:
		return []string{[]string{"false", "true"}[v]}
	case t == api.TInt && v < 0:
		return []string{"-", strconv.Itoa(-v)}
	case t == api.TInt:
		return []string{strconv.Itoa(v)}
	}
	return []string{w.enums[t-api.TEnum].Tags[v]}
}

// separated puts a separator between the parts.
func separated(parts [][]string, separator string) []string {
	var l []string
	for i, x := range parts {
		if i > 0 {
			l = append(l, separator)
		}
		l = append(l, x...)
	}
	return l
}

func (w writer) declTokens(l []api.Decl) []string {
	var parts [][]string
	for _, d := range l {
		x := []string{d.Name, ":"}
		switch d.Type {
		case api.TBool:
			x = append(x, "bool")
		case api.TInt:
			x = append(x, "int")
		default:
			x = append(x, w.enums[d.Type-api.TEnum].Name)
		}
		for _, on := range d.Clock {
			x = slices.Concat(x, []string{"when"}, w.value(on.T, on.Tag), []string{"(", on.Name, ")"})
		}
		parts = append(parts, x)
	}
	return separated(parts, ";")
}

func (w writer) varTokens(l []api.Decl) []string {
	if len(l) == 0 {
		return nil
	}
	return slices.Concat([]string{"var"}, w.declTokens(l), []string{";"})
}

// bodyTokens writes equations and automata in their orders, which may be mixed.
func (w writer) bodyTokens(eqs []api.Eq, autos []api.Auto) []string {
	var l []string
	for len(eqs) > 0 || len(autos) > 0 {
		if len(autos) > 0 && (len(eqs) == 0 || w.chance(2)) {
			l, autos = append(l, w.autoTokens(autos[0])...), autos[1:]
			continue
		}
		x := eqs[0]
		eqs = eqs[1:]
		if left := [][]string{}; len(x.Left) > 1 || w.chance(4) {
			for _, name := range x.Left {
				left = append(left, []string{name})
			}
			l = slices.Concat(l, []string{"("}, separated(left, ","), []string{")"})
		} else {
			l = append(l, x.Left[0])
		}
		if len(x.Left) > 1 { // a call without brackets around it or with them is the same
			l = slices.Concat(l, []string{"="}, w.tokens(x.Right, atPrimary, true), []string{";"})
			continue
		}
		l = slices.Concat(l, []string{"="}, w.tokens(x.Right, atExpr, true), []string{";"})
	}
	return l
}

func (w writer) autoTokens(a api.Auto) []string {
	l := []string{"automaton"}
	trans := func(keyword string, all []api.Trans) {
		for _, x := range all {
			then := map[bool]string{false: "then", true: "continue"}[x.Resume]
			l = slices.Concat(l, []string{keyword}, w.tokens(x.Cond, atExpr, true), []string{then, a.States[x.To].Name, ";"})
		}
	}
	for _, s := range a.States {
		l = slices.Concat(l, []string{"state", s.Name}, w.varTokens(s.Locals))
		trans("unless", s.Unless)
		l = slices.Concat(l, []string{"do"}, w.bodyTokens(s.Eqs, s.Autos))
		trans("until", s.Until)
		l = append(l, "done")
	}
	return append(l, "end")
}

// header writes the enumerations.
func (w writer) header() []string {
	var l []string
	for _, x := range w.enums {
		var tags [][]string
		for _, tag := range x.Tags {
			tags = append(tags, []string{tag})
		}
		l = slices.Concat(l, []string{"type", x.Name, "="}, separated(tags, "|"), []string{";"})
	}
	return l
}

func (w writer) nodeTokens(n api.Node) []string {
	l := slices.Concat([]string{"node", n.Name, "("}, w.declTokens(n.In), []string{")", "returns", "("}, w.declTokens(n.Out), []string{")"}, w.varTokens(n.Locals))
	assume, ensure := n.Assume, n.Ensure
	for len(assume) > 0 || len(ensure) > 0 {
		if len(assume) > 0 && (len(ensure) == 0 || w.chance(2)) {
			l, assume = slices.Concat(l, []string{"assume"}, w.tokens(assume[0], atExpr, true), []string{";"}), assume[1:]
		} else {
			l, ensure = slices.Concat(l, []string{"ensure"}, w.tokens(ensure[0], atExpr, true), []string{";"}), ensure[1:]
		}
	}
	return slices.Concat(l, []string{"let"}, w.bodyTokens(n.Eqs, n.Autos), []string{"tel"})
}

// programTokens writes a program.
func (w writer) programTokens(p api.Program) []string {
	w.enums = p.Enums
	l := w.header()
	for _, n := range p.Nodes {
		l = append(l, w.nodeTokens(n)...)
	}
	return l
}

// text puts blanks and remarks between the tokens, where there must be some, and elsewhere.
func (w writer) text(l []string) string {
	var s strings.Builder
	for i, x := range l {
		apart := i > 0 && !strings.Contains("(),;:|", l[i-1]) && !strings.Contains("(),;:|", x)
		switch k := w.r.Intn(12); {
		case k == 0:
			s.WriteString(" -- x = 1; -- '$\n")
		case k < 4:
			s.WriteString([]string{"\n", "\t", "\r\n ", "   "}[k])
		case apart:
			s.WriteByte(' ')
		}
		s.WriteString(x)
	}
	if w.chance(3) {
		s.WriteString(" -- the end")
	}
	return s.String()
}
