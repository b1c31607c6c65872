package shape

import (
	"math"
	"reflect"
	"strings"
	"testing"

	"synchrony/api"
)

func expectCheck(t *testing.T, what string, p api.Program, where api.Where, want api.Errno) {
	t.Helper()
	if w, e := Check(p); w != where || e != want {
		t.Errorf("%s: Check = %v, %d, want %v, %d", what, w, int(e), where, int(want))
	}
}

// bend is a change of the full program, and the error that it causes.
type bend struct {
	what string
	eq   int
	want api.Errno
	do   func(n *api.Node)
}

// declBends are the errors of a declaration that may have a clock or not, in the order of the chapter.
func declBends(what string, eq int, clocked bool, at func(n *api.Node) *api.Decl) []bend {
	on := func(name string, t, tag int) func(n *api.Node) {
		return func(n *api.Node) { at(n).Clock[0] = api.On{Name: name, T: t, Tag: tag} }
	}
	l := []bend{
		{what + ": a keyword as a name", eq, api.ErrName, func(n *api.Node) { at(n).Name = "if" }},
		{what + ": an unknown type", eq, api.ErrType, func(n *api.Node) { at(n).Type = api.TEnum + 2 }},
	}
	if !clocked {
		return append(l, bend{what + ": a clock", eq, api.ErrClock, func(n *api.Node) { at(n).Clock = []api.On{{Name: "a", T: api.TBool, Tag: 1}} }})
	}
	return append(l,
		bend{what + ": 5 samplings", eq, api.ErrLimit, func(n *api.Node) { at(n).Clock = append(at(n).Clock, make([]api.On, 5)...) }},
		bend{what + ": a sampling without a name", eq, api.ErrName, on("", api.TInt, 9)},
		bend{what + ": a sampling by a number", eq, api.ErrForm, on("a", api.TInt, 0)},
		bend{what + ": a sampling of no type", eq, api.ErrForm, on("a", api.TEnum+2, 0)},
		bend{what + ": a sampling by no value", eq, api.ErrForm, on("a", api.TEnum, 3)},
		bend{what + ": a sampling by less than a value", eq, api.ErrForm, on("a", api.TBool, -1)},
	)
}

// exprBends are the errors of an expression.
func exprBends(what string, eq int, at func(n *api.Node) *api.Expr) []bend {
	set := func(e api.Expr) func(n *api.Node) { return func(n *api.Node) { *at(n) = e } }
	many := make([]api.Expr, 65)
	return []bend{
		{what + ": 65 arguments", eq, api.ErrLimit, set(call("f", many...))},
		{what + ": no kind", eq, api.ErrForm, set(api.Expr{})},
		{what + ": a name with a blank", eq, api.ErrName, set(with(api.EPre, variable("a b")))},
		{what + ": a constant of no type", eq, api.ErrType, set(constant(api.TEnum+2, 0))},
		{what + ": a constant of no value", eq, api.ErrRange, set(constant(api.TEnum+1, 2))},
		{what + ": a missing branch", eq, api.ErrArity, set(merge("a", api.TEnum, variable("a")))},
	}
}

func eqBends(what string, eq int, at func(n *api.Node) *api.Eq) []bend {
	l := []bend{
		{what + ": nothing on the left", eq, api.ErrNone, func(n *api.Node) { at(n).Left = nil }},
		{what + ": 65 on the left", eq, api.ErrLimit, func(n *api.Node) { at(n).Left = append(at(n).Left, names(65)...) }},
		{what + ": a wrong name on the left", eq, api.ErrName, func(n *api.Node) { at(n).Left[0] = "1x" }},
	}
	l = append(l, exprBends(what, eq, func(n *api.Node) *api.Expr { return &at(n).Right })...)
	return append(l, bend{what + ": several on the left, and no call", eq, api.ErrForm, func(n *api.Node) {
		at(n).Left, at(n).Right = names(2), variable("a")
	}})
}

func transBends(what string, unless bool, at func(n *api.Node) *api.Trans) []bend {
	l := []bend{
		{what + ": to no state", -1, api.ErrRange, func(n *api.Node) { at(n).To = 2 }},
		{what + ": to less than a state", -1, api.ErrRange, func(n *api.Node) { at(n).To = -1 }},
	}
	l = append(l, exprBends(what, -1, func(n *api.Node) *api.Expr { return &at(n).Cond })...)
	if unless {
		l = append(l, bend{what + ": a condition with a state", -1, api.ErrForm, func(n *api.Node) { at(n).Cond = apply(api.OpNot, with(api.EPre, variable("a"))) }})
	}
	return l
}

func stateBends(what string, at func(n *api.Node) *api.State) []bend {
	limit := func(part string, do func(s *api.State)) bend {
		return bend{what + ": too many " + part, -1, api.ErrLimit, func(n *api.Node) { do(at(n)) }}
	}
	l := []bend{
		{what + ": a wrong name", -1, api.ErrName, func(n *api.Node) { at(n).Name = "_" }},
		limit("locals", func(s *api.State) { s.Locals = append(s.Locals, decls(257)...)[:257] }),
		limit("equations", func(s *api.State) { s.Eqs = append(s.Eqs, eqs(257)...)[:257] }),
		limit("automata", func(s *api.State) { s.Autos = append(s.Autos, autos(9)...)[:9] }),
		limit("unless", func(s *api.State) { s.Unless = append(s.Unless, trans(5)...)[:5] }),
		limit("until", func(s *api.State) { s.Until = append(s.Until, trans(5)...)[:5] }),
	}
	l = append(l, declBends(what+": local 0", -1, true, func(n *api.Node) *api.Decl { return &at(n).Locals[0] })...)
	l = append(l, declBends(what+": local 1", -1, true, func(n *api.Node) *api.Decl {
		at(n).Locals[1].Clock = append(at(n).Locals[1].Clock, api.On{Name: "a", T: api.TBool})
		return &at(n).Locals[1]
	})...)
	l = append(l, eqBends(what+": equation 0", -1, func(n *api.Node) *api.Eq { return &at(n).Eqs[0] })...)
	return append(l, eqBends(what+": equation 1", -1, func(n *api.Node) *api.Eq { return &at(n).Eqs[1] })...)
}

// nodeBends are the errors of a node in the order of the chapter.
func nodeBends() []bend {
	limit := func(part string, do func(n *api.Node)) bend { return bend{"too many " + part, -1, api.ErrLimit, do} }
	l := []bend{
		{"a keyword as the name", -1, api.ErrName, func(n *api.Node) { n.Name = "node" }},
		limit("inputs", func(n *api.Node) { n.In = append(n.In, decls(63)...) }),
		limit("outputs", func(n *api.Node) { n.Out = append(n.Out, decls(65)...) }),
		limit("locals", func(n *api.Node) { n.Locals = append(n.Locals, decls(255)...) }),
		limit("equations", func(n *api.Node) { n.Eqs = append(n.Eqs, eqs(254)...) }),
		limit("automata", func(n *api.Node) { n.Autos = append(n.Autos, autos(7)...) }),
		limit("assumptions", func(n *api.Node) { n.Assume = append(n.Assume, make([]api.Expr, 7)...) }),
		limit("guarantees", func(n *api.Node) { n.Ensure = append(n.Ensure, make([]api.Expr, 7)...) }),
		{"no outputs", -1, api.ErrNone, func(n *api.Node) { n.Out = nil }},
	}
	l = append(l, declBends("input 0", -1, false, func(n *api.Node) *api.Decl { return &n.In[0] })...)
	l = append(l, declBends("input 1", -1, false, func(n *api.Node) *api.Decl { return &n.In[1] })...)
	l = append(l, declBends("output 0", -1, false, func(n *api.Node) *api.Decl { return &n.Out[0] })...)
	l = append(l, declBends("output 1", -1, false, func(n *api.Node) *api.Decl { return &n.Out[1] })...)
	l = append(l, declBends("local 0", -1, true, func(n *api.Node) *api.Decl { return &n.Locals[0] })...)
	l = append(l, bend{"the second sampling", -1, api.ErrForm, func(n *api.Node) { n.Locals[0].Clock[1].T = api.TInt }})
	for i := range 3 {
		l = append(l, eqBends("equation", i, func(n *api.Node) *api.Eq { return &n.Eqs[i] })...)
	}
	l = append(l, autoBends("automaton 0", func(n *api.Node) *api.Auto { return &n.Autos[0] }, func(s func(n *api.Node) *api.State) []bend {
		inner := autoBends("automaton 0.0", func(n *api.Node) *api.Auto { return &s(n).Autos[0] }, func(s func(n *api.Node) *api.State) []bend {
			return autoBends("automaton 0.0.1", func(n *api.Node) *api.Auto { return &s(n).Autos[1] }, func(s func(n *api.Node) *api.State) []bend {
				return []bend{{"a fourth level", -1, api.ErrLimit, func(n *api.Node) { s(n).Autos = make([]api.Auto, 1) }}}
			})
		})
		return append(inner, bend{"automaton 0.1: no states", -1, api.ErrNone, func(n *api.Node) { s(n).Autos[1].States = nil }})
	})...)
	l = append(l, autoBends("automaton 1", func(n *api.Node) *api.Auto { return &n.Autos[1] }, nil)...)
	l = append(l, exprBends("assumption 0", -1, func(n *api.Node) *api.Expr { return &n.Assume[0] })...)
	l = append(l, exprBends("assumption 1", -1, func(n *api.Node) *api.Expr { return &n.Assume[1] })...)
	l = append(l, exprBends("guarantee 0", -1, func(n *api.Node) *api.Expr { return &n.Ensure[0] })...)
	return append(l, exprBends("guarantee 1", -1, func(n *api.Node) *api.Expr { return &n.Ensure[1] })...)
}

// autoBends are the errors of an automaton, with those of the automata in its first state as inner returns them.
func autoBends(what string, at func(n *api.Node) *api.Auto, inner func(s func(n *api.Node) *api.State) []bend) []bend {
	l := []bend{
		{what + ": no states", -1, api.ErrNone, func(n *api.Node) { at(n).States = nil }},
		{what + ": too many states", -1, api.ErrLimit, func(n *api.Node) { at(n).States = append(at(n).States, make([]api.State, 7)...) }},
	}
	for i, name := range []string{"S", "T"} {
		s := func(n *api.Node) *api.State { return &at(n).States[i] }
		l = append(l, stateBends(what+"."+name, s)...)
		if i == 0 && inner != nil {
			l = append(l, inner(s)...)
		}
		for j := range 2 {
			l = append(l, transBends(what+"."+name+": unless", true, func(n *api.Node) *api.Trans { return &s(n).Unless[j] })...)
		}
		for j := range 2 {
			l = append(l, transBends(what+"."+name+": until", false, func(n *api.Node) *api.Trans { return &s(n).Until[j] })...)
		}
	}
	return l
}

// The tests of Check are P7.2.

func TestCheckExamples(t *testing.T) {
	expectCheck(t, "nothing", api.Program{}, api.Where{}, api.OK)
	expectCheck(t, "the full program", full(), api.Where{}, api.OK)
	p := full()
	p.Nodes[1].Out = nil
	expectCheck(t, "no outputs of the second node", p, api.Where{Node: 1, Eq: -1}, api.ErrNone)
	light := api.Program{
		Enums: []api.Enum{{Name: "Light", Tags: []string{"Red", "Green"}}},
		Nodes: []api.Node{{Name: "f", Out: []api.Decl{decl("x", api.TEnum)}, Eqs: []api.Eq{eq(constant(api.TEnum, 0), "x")}}},
	}
	expectCheck(t, "the example", light, api.Where{}, api.OK)
	expectCheck(t, "a node without equations", api.Program{Nodes: []api.Node{{Name: "f", Out: decls(1)}}}, api.Where{}, api.OK)
}

// TestCheckErrors: each error alone, in each of the two nodes.
func TestCheckErrors(t *testing.T) {
	for i := range 2 {
		for _, b := range nodeBends() {
			p := full()
			b.do(&p.Nodes[i])
			before := deepCopy(p)
			expectCheck(t, b.what, p, api.Where{Node: i, Eq: b.eq}, b.want)
			if !reflect.DeepEqual(p, before) {
				t.Errorf("%s: the program became another one", b.what)
			}
		}
	}
}

// TestCheckOrder: of two errors, the one that the chapter names first is returned. The later one is made first, because the other one may take away its place.
func TestCheckOrder(t *testing.T) {
	l := nodeBends()
	for i, first := range l {
		for j := i + 1; j < len(l); j += 1 + (j-i)/6 {
			p := full()
			l[j].do(&p.Nodes[0])
			first.do(&p.Nodes[0])
			expectCheck(t, first.what+" and "+l[j].what, p, api.Where{Node: 0, Eq: first.eq}, first.want)
		}
		for _, other := range []bend{l[0], l[len(l)-1]} {
			p := full()
			other.do(&p.Nodes[1])
			first.do(&p.Nodes[0])
			expectCheck(t, first.what+", and in the next node "+other.what, p, api.Where{Node: 0, Eq: first.eq}, first.want)
		}
	}
}

func TestCheckEnums(t *testing.T) {
	whole := api.Where{Node: -1, Eq: -1}
	bends := []struct {
		want api.Errno
		do   func(p *api.Program)
	}{
		{api.ErrLimit, func(p *api.Program) { p.Enums = append(p.Enums, make([]api.Enum, 24)...) }},
		{api.ErrLimit, func(p *api.Program) { p.Nodes = append(p.Nodes, make([]api.Node, 95)...) }},
		{api.ErrName, func(p *api.Program) { p.Enums[0].Name = "int" }},
		{api.ErrNone, func(p *api.Program) { p.Enums[0].Tags = nil }},
		{api.ErrLimit, func(p *api.Program) { p.Enums[0].Tags = append(p.Enums[0].Tags, make([]string, 14)...) }},
		{api.ErrName, func(p *api.Program) { p.Enums[0].Tags[1] = "true" }},
		{api.ErrName, func(p *api.Program) { p.Enums[1].Name = "" }},
		{api.ErrNone, func(p *api.Program) { p.Enums[1].Tags = []string{} }},
		{api.ErrName, func(p *api.Program) { p.Enums[1].Tags[0] = strings.Repeat("a", 41) }},
	}
	for i, x := range bends {
		for j := i; j < len(bends); j++ {
			p := full()
			p.Nodes[0].Name = ""
			bends[j].do(&p)
			x.do(&p)
			expectCheck(t, "enumerations", p, whole, x.want)
		}
	}
}

// most has the most of each part, and no more.
func most() api.Program {
	state := func(name string) api.State {
		return api.State{Name: name, Locals: decls(256), Eqs: eqs(256), Autos: append(autos(7), nested(2)), Unless: trans(4), Until: trans(4)}
	}
	node := api.Node{
		Name: "f", In: decls(64), Out: decls(64), Locals: decls(256), Eqs: eqs(256), Autos: append(autos(7), nested(3)),
		Assume: numbered(8, func(int) api.Expr { return variable("a") }), Ensure: numbered(8, func(int) api.Expr { return variable("a") }),
	}
	node.Autos[0].States = numbered(8, func(int) api.State { return state("S") })
	node.Autos[0].States[7].Until[3].To = 7
	node.Locals[255].Clock = make([]api.On, 4)
	for i := range 4 {
		node.Locals[255].Clock[i] = api.On{Name: "a", T: api.TBool, Tag: i % 2}
	}
	node.Eqs[255] = eq(call("f"), names(64)...)
	tags := make([]string, 16)
	for i := range tags {
		tags[i] = "T" + strings.Repeat("a", i)
	}
	return api.Program{
		Enums: numbered(24, func(int) api.Enum { return api.Enum{Name: strings.Repeat("E", 40), Tags: tags} }),
		Nodes: numbered(96, func(int) api.Node { return node }),
	}
}

func TestCheckMost(t *testing.T) {
	expectCheck(t, "the most of all", most(), api.Where{}, api.OK)
	p := most()
	p.Enums = append(p.Enums, p.Enums[0])
	expectCheck(t, "25 enumerations", p, api.Where{Node: -1, Eq: -1}, api.ErrLimit)
	p = most()
	p.Nodes = append(p.Nodes, p.Nodes[0])
	expectCheck(t, "97 nodes", p, api.Where{Node: -1, Eq: -1}, api.ErrLimit)
	for what, do := range map[string]func(n *api.Node){
		"inputs":        func(n *api.Node) { n.In = decls(65) },
		"outputs":       func(n *api.Node) { n.Out = decls(65) },
		"locals":        func(n *api.Node) { n.Locals = decls(257) },
		"equations":     func(n *api.Node) { n.Eqs = eqs(257) },
		"automata":      func(n *api.Node) { n.Autos = autos(9) },
		"assumptions":   func(n *api.Node) { n.Assume = append(n.Assume[:8:8], variable("a")) },
		"guarantees":    func(n *api.Node) { n.Ensure = append(n.Ensure[:8:8], variable("a")) },
		"levels":        func(n *api.Node) { n.Autos = []api.Auto{nested(4)} },
		"many levels":   func(n *api.Node) { n.Autos = []api.Auto{nested(1 << 14)} },
		"states":        func(n *api.Node) { n.Autos = []api.Auto{{States: make([]api.State, 9)}} },
		"samplings":     func(n *api.Node) { n.Locals = []api.Decl{decl("a", api.TBool, make([]api.On, 5)...)} },
		"of the second": func(n *api.Node) { n.Autos = []api.Auto{nested(3), nested(4)} },
	} {
		p := most()
		do(&p.Nodes[95])
		expectCheck(t, "too many "+what, p, api.Where{Node: 95, Eq: -1}, api.ErrLimit)
	}
	p = most()
	p.Nodes[95].Eqs = []api.Eq{eq(call("f"), names(64)...), eq(call("f"), names(65)...)}
	expectCheck(t, "65 names on the left", p, api.Where{Node: 95, Eq: 1}, api.ErrLimit)
}

// TestCheckTypes: the types that a declaration and a sampling can have depend on the enumerations.
func TestCheckTypes(t *testing.T) {
	for _, x := range []int{math.MinInt, -1, 0, api.TEnum + 2, api.TEnum + 3, math.MaxInt} {
		p := full()
		p.Nodes[0].In[0].Type = x
		expectCheck(t, "the type of an input", p, api.Where{Node: 0, Eq: -1}, api.ErrType)
		p = full()
		p.Nodes[0].Locals[0].Clock[0].T = x
		expectCheck(t, "the type of a sampling", p, api.Where{Node: 0, Eq: -1}, api.ErrForm)
	}
	for x := api.TBool; x <= api.TEnum+1; x++ {
		for v := -1; v <= 4; v++ {
			p := full()
			p.Nodes[0].Out[0].Type = x
			p.Nodes[1].Locals[0].Clock[1] = api.On{Name: "b", T: x, Tag: v}
			size := map[int]int{api.TBool: 2, api.TInt: 0, api.TEnum: 3, api.TEnum + 1: 2}[x]
			if v >= 0 && v < size {
				expectCheck(t, "a sampling", p, api.Where{}, api.OK)
			} else {
				expectCheck(t, "a sampling", p, api.Where{Node: 1, Eq: -1}, api.ErrForm)
			}
		}
	}
}

// TestCheckOfParts is P7.4.
func TestCheckOfParts(t *testing.T) {
	p := full()
	p.Nodes = append(p.Nodes, full().Nodes...)
	for _, e := range exprsOf(p) {
		expectExpr(t, p.Enums, e, api.OK)
	}
	for len(p.Nodes) > 0 {
		expectCheck(t, "the first nodes", p, api.Where{}, api.OK)
		p.Nodes = p.Nodes[:len(p.Nodes)-1]
	}
	expectCheck(t, "no nodes", p, api.Where{}, api.OK)
}

// TestCheckOfSomeExprs is P7.2 and P7.4: in each place of a program, an expression causes the error of Expr.
func TestCheckOfSomeExprs(t *testing.T) {
	for i, e := range []api.Expr{variable("x"), constant(api.TEnum, 3), merge("x", api.TEnum+1, variable("x")), periodic("(2)"), with(api.EPre), variable("pre"), constant(9, 0)} {
		p := full()
		var places []*api.Expr
		for k := range p.Nodes {
			n := &p.Nodes[k]
			places = append(places, &n.Eqs[2].Right, &n.Assume[1], &n.Ensure[0], &n.Autos[1].States[1].Until[1].Cond, &n.Autos[0].States[0].Autos[0].States[0].Unless[0].Cond)
		}
		for _, place := range places {
			old := *place
			*place = e
			if _, g := Check(p); g != Expr(p.Enums, e) || (g == api.OK) != (i == 0) {
				t.Errorf("%v: %d, want %d", e, int(g), int(Expr(p.Enums, e)))
			}
			*place = old
		}
	}
}
