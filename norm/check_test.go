package norm

import (
	"reflect"
	"strconv"
	"testing"

	"synchrony/accept"
	"synchrony/api"
)

// callee is a node that is right, which others can call.
func callee() api.NNode {
	return api.NNode{
		Name: "g", In: []api.Decl{{Name: "i", Type: api.TInt}}, Out: []api.Decl{{Name: "o", Type: api.TInt}},
		Eqs: []api.NEq{{Kind: api.NDef, Left: []string{"o"}, Right: variables("i")[0]}},
	}
}

// caller is a node with the equations, two inputs, an output, and a local on a clock.
func caller(eqs ...api.NEq) api.NNode {
	return api.NNode{
		Name: "f", In: []api.Decl{{Name: "a", Type: api.TInt}, {Name: "c", Type: api.TBool}},
		Out: []api.Decl{{Name: "x", Type: api.TInt}}, Locals: []api.Decl{{Name: "y", Type: api.TInt, Clock: onC()}}, Eqs: eqs,
	}
}

func onC() []api.On { return []api.On{{Name: "c", T: api.TBool, Tag: 1}} }

// right returns equations of all kinds that are right in the caller, for the output x and for the local y.
func rightEqs() (ofX, ofY []api.NEq) {
	one := number(1)
	sampled := api.Expr{Kind: api.EWhen, Name: "c", T: api.TBool, V: 1, Args: variables("a")}
	merged := api.Expr{Kind: api.EMerge, Name: "c", T: api.TBool, Args: []api.Expr{one, variables("y")[0]}}
	for _, e := range []api.Expr{one, variables("a")[0], merged} {
		ofX = append(ofX, api.NEq{Kind: api.NDef, Left: []string{"x"}, Right: e})
	}
	for _, e := range []api.Expr{one, sampled, with(api.EIf, api.Expr{Kind: api.EConst, T: api.TBool}, one, sampled)} {
		ofY = append(ofY, api.NEq{Kind: api.NDef, Left: []string{"y"}, Right: e, Clock: onC()})
	}
	ofX = append(ofX, api.NEq{Kind: api.NDelay, Left: []string{"x"}, Right: variables("a")[0], Init: 5},
		api.NEq{Kind: api.NDelay, Left: []string{"x"}, Right: one},
		api.NEq{Kind: api.NCall, Left: []string{"x"}, Node: "g", Args: []api.Expr{one}, Every: "c"},
		api.NEq{Kind: api.NCall, Left: []string{"x"}, Node: "g", Args: variables("a")})
	ofY = append(ofY, api.NEq{Kind: api.NDelay, Left: []string{"y"}, Right: variables("y")[0], Init: -5, Clock: onC()},
		api.NEq{Kind: api.NCall, Left: []string{"y"}, Node: "g", Args: []api.Expr{sampled}, Clock: onC()})
	return ofX, ofY
}

func expectCheck(t *testing.T, what string, n api.NProgram, want api.Errno) {
	t.Helper()
	before := deepCopy(n)
	if e := Check(n); e != want {
		t.Errorf("%s: Check returns %d, want %d", what, int(e), int(want))
	}
	if !Same(n, before) {
		t.Errorf("%s: Check changed the program", what)
	}
}

// TestRight is P19.2: equations of all kinds.
func TestRight(t *testing.T) {
	expectCheck(t, "nothing", api.NProgram{}, api.OK)
	ofX, ofY := rightEqs()
	for _, x := range ofX {
		for _, y := range ofY {
			expectCheck(t, "right equations", api.NProgram{Nodes: []api.NNode{callee(), caller(x, y)}}, api.OK)
		}
	}
	word := caller(ofX[0], ofY[0], api.NEq{Kind: api.NWord, Left: []string{"w"}, Node: "1(01)", Clock: onC()})
	word.Locals = append(word.Locals, api.Decl{Name: "w", Type: api.TBool, Clock: onC()})
	expectCheck(t, "a word", api.NProgram{Nodes: []api.NNode{callee(), word}}, api.OK)
	pair := callee()
	pair.Out = append(pair.Out, api.Decl{Name: "q", Type: api.TBool})
	pair.Eqs = append(pair.Eqs, api.NEq{Kind: api.NWord, Left: []string{"q"}, Node: "(0)"})
	both := api.NEq{Kind: api.NCall, Left: []string{"y", "w"}, Node: "g", Args: []api.Expr{number(1)}, Clock: onC()}
	word.Eqs = []api.NEq{ofX[0], both}
	expectCheck(t, "a call with two results", api.NProgram{Nodes: []api.NNode{pair, word}}, api.OK)
}

// TestForms is P19.2: each kind, with each field that it does not have, and with parts that are not permitted.
func TestForms(t *testing.T) {
	a, word := variables("a")[0], api.Expr{Kind: api.EWord, Name: "(1)"}
	x, merge := []string{"x"}, api.Expr{Kind: api.EMerge, Name: "c", T: api.TBool, Args: []api.Expr{a, a}}
	def := api.NEq{Kind: api.NDef, Left: x, Right: a}
	delay := api.NEq{Kind: api.NDelay, Left: x, Right: a, Init: 1}
	call := api.NEq{Kind: api.NCall, Left: x, Node: "g", Args: variables("a"), Every: "c"}
	letter := api.NEq{Kind: api.NWord, Left: x, Node: "(1)"}
	change := func(q api.NEq, f func(q *api.NEq)) api.NEq {
		f(&q)
		return q
	}
	rights := func(q api.NEq, l ...api.Expr) []api.NEq {
		var eqs []api.NEq
		for _, e := range l {
			eqs = append(eqs, change(q, func(q *api.NEq) { q.Right = e }))
		}
		return eqs
	}
	l := []api.NEq{
		{}, {Left: x, Right: a}, {Kind: -1, Left: x, Right: a}, {Kind: 5, Left: x, Right: a},
		change(def, func(q *api.NEq) { q.Left = nil }), change(def, func(q *api.NEq) { q.Left = []string{"x", "y"} }),
		change(def, func(q *api.NEq) { q.Init = 1 }), change(def, func(q *api.NEq) { q.Node = "g" }),
		change(def, func(q *api.NEq) { q.Args = variables("a") }), change(def, func(q *api.NEq) { q.Every = "c" }),
		change(delay, func(q *api.NEq) { q.Left = []string{} }), change(delay, func(q *api.NEq) { q.Left = []string{"x", "y"} }),
		change(delay, func(q *api.NEq) { q.Node = "g" }), change(delay, func(q *api.NEq) { q.Args = variables("a") }), change(delay, func(q *api.NEq) { q.Every = "c" }),
		change(call, func(q *api.NEq) { q.Left = nil }), change(call, func(q *api.NEq) { q.Init = 1 }), change(call, func(q *api.NEq) { q.Right = a }),
		change(call, func(q *api.NEq) { q.Args = []api.Expr{merge} }), change(call, func(q *api.NEq) { q.Args = []api.Expr{a, with(api.EPre, a)} }),
		change(letter, func(q *api.NEq) { q.Left = nil }), change(letter, func(q *api.NEq) { q.Left = []string{"x", "y"} }), change(letter, func(q *api.NEq) { q.Init = 1 }),
		change(letter, func(q *api.NEq) { q.Right = a }), change(letter, func(q *api.NEq) { q.Args = variables("a") }), change(letter, func(q *api.NEq) { q.Every = "c" }),
	}
	l = append(l, rights(def, api.Expr{}, word, with(api.EPre, a), with(api.EFby, a, a), with(api.EArrow, a, a), api.Expr{Kind: api.ECall, Name: "g", Args: variables("a")},
		with(api.EOp, merge), api.Expr{Kind: api.EMerge, Name: "c", T: api.TBool, Args: []api.Expr{a, word}})...)
	l = append(l, rights(delay, api.Expr{}, word, merge, with(api.EOp, a, a), with(api.EIf, a, a, a), api.Expr{Kind: api.EWhen, Name: "c", T: api.TBool, Args: variables("a")}, with(api.EPre, a))...)
	for i, q := range l {
		expectCheck(t, "the malformed equation "+strconv.Itoa(i), api.NProgram{Nodes: []api.NNode{callee(), caller(q)}}, api.ErrForm)
		expectCheck(t, "an error before", api.NProgram{Enums: make([]api.Enum, 1), Nodes: []api.NNode{{Eqs: []api.NEq{def}}, caller(def, q)}}, api.ErrForm)
	}
}

// TestRefused is P19.2: errors of the program.
func TestRefused(t *testing.T) {
	def := func(name string, e api.Expr, ck ...api.On) api.NEq {
		return api.NEq{Kind: api.NDef, Left: []string{name}, Right: e, Clock: ck}
	}
	a, x, y, yes := variables("a")[0], variables("x")[0], variables("y")[0], api.Expr{Kind: api.EConst, T: api.TBool, V: 1}
	right := def("y", number(1), onC()...)
	call := func(args ...api.Expr) api.NEq {
		return api.NEq{Kind: api.NCall, Left: []string{"x"}, Node: "g", Args: args}
	}
	for _, c := range []struct {
		what string
		eqs  []api.NEq
		want api.Errno
	}{
		{"an unknown variable", []api.NEq{def("x", variables("z")[0]), right}, api.ErrName},
		{"an unknown reset condition", []api.NEq{{Kind: api.NCall, Left: []string{"x"}, Node: "g", Args: variables("a"), Every: "z"}, right}, api.ErrName},
		{"a node that does not come before", []api.NEq{{Kind: api.NCall, Left: []string{"x"}, Node: "f", Args: []api.Expr{a, yes}}, right}, api.ErrName},
		{"no node", []api.NEq{{Kind: api.NCall, Left: []string{"x"}}, right}, api.ErrName},
		{"an unknown variable on the left", []api.NEq{def("z", a), right}, api.ErrName},
		{"an input on the left", []api.NEq{def("a", a), right}, api.ErrTwice},
		{"two equations", []api.NEq{def("x", a), def("x", a), right}, api.ErrTwice},
		{"no equation", []api.NEq{def("x", a)}, api.ErrNone},
		{"too many arguments", []api.NEq{call(a, a), right}, api.ErrArity},
		{"too few arguments", []api.NEq{call(), right}, api.ErrArity},
		{"a wrong argument", []api.NEq{call(yes), right}, api.ErrType},
		{"a wrong type", []api.NEq{def("x", yes), right}, api.ErrType},
		{"a word of the type int", []api.NEq{{Kind: api.NWord, Left: []string{"x"}, Node: "(1)"}, right}, api.ErrType},
		{"no word", []api.NEq{{Kind: api.NWord, Left: []string{"x"}, Node: "g"}, right}, api.ErrForm},
		{"a wrong initial value", []api.NEq{{Kind: api.NDelay, Left: []string{"x"}, Right: a, Init: 1 << 15}, right}, api.ErrForm},
		{"two arguments of a choice", []api.NEq{def("x", with(api.EIf, yes, a)), right}, api.ErrForm},
		{"an atom with an argument", []api.NEq{def("x", with(api.EConst, a)), right}, api.ErrForm},
		{"a cycle", []api.NEq{def("x", x), right}, api.ErrCycle},
		{"another clock", []api.NEq{def("x", y), right}, api.ErrClock},
		{"another clock of an argument", []api.NEq{call(y), right}, api.ErrClock},
		{"a clock of an output", []api.NEq{def("x", a, onC()...), right}, api.ErrClock},
		{"no clock of a local", []api.NEq{def("x", a), def("y", number(1))}, api.ErrClock},
		{"another tag", []api.NEq{def("x", a), def("y", number(1), api.On{Name: "c", T: api.TBool})}, api.ErrClock},
		{"a longer clock", []api.NEq{def("x", a), def("y", number(1), append(onC(), onC()...)...)}, api.ErrClock},
		{"an error of a later check and a wrong clock", []api.NEq{def("x", a, onC()...), def("y", a, onC()...)}, api.ErrClock},
		{"a cycle and a wrong clock", []api.NEq{def("x", x, onC()...), right}, api.ErrCycle},
	} {
		expectCheck(t, c.what, api.NProgram{Nodes: []api.NNode{callee(), caller(c.eqs...)}}, c.want)
	}
	late := api.NProgram{Nodes: []api.NNode{caller(call(a), right), callee()}}
	expectCheck(t, "a node that comes later", late, api.ErrName)
	ofX := def("x", a)
	expectCheck(t, "the clock of an equation first", api.NProgram{Nodes: []api.NNode{caller(def("x", a, onC()...), right), {}}}, api.ErrName)
	expectCheck(t, "no nodes of these names", api.NProgram{Nodes: []api.NNode{caller(ofX, right), caller(ofX, right)}}, api.ErrTwice)
	expectCheck(t, "too many nodes", api.NProgram{Nodes: make([]api.NNode, api.MaxNodes+1)}, api.ErrLimit)
	expectCheck(t, "an enumeration without tags", api.NProgram{Enums: []api.Enum{{Name: "E"}}}, api.ErrNone)
	input := caller(ofX, right)
	input.In[0].Clock = onC()
	expectCheck(t, "an input with a clock", api.NProgram{Nodes: []api.NNode{input}}, api.ErrClock)
}

// TestSpoilt is P19.2 for programs with one change anywhere.
func TestSpoilt(t *testing.T) {
	ofX, ofY := rightEqs()
	errors := map[int]int{}
	for _, x := range ofX {
		for _, y := range ofY {
			n := api.NProgram{Enums: []api.Enum{{Name: "E", Tags: []string{"P", "Q"}}}, Nodes: []api.NNode{callee(), caller(x, y)}}
			n = deepCopy(n)
			spoil(reflect.ValueOf(&n).Elem(), func() {
				e := Check(n)
				errors[int(e)]++
				if _, want := accept.Check(Back(n)); e != want && e != api.ErrForm && (want != api.OK || e != api.ErrClock) {
					t.Errorf("%v: Check returns %d, accept.Check %d", n, int(e), int(want))
				}
			})
		}
	}
	if errors[int(api.OK)] < 100 || errors[int(api.ErrForm)] < 400 || errors[int(api.ErrClock)] < 200 || errors[int(api.ErrName)] < 400 {
		t.Errorf("the errors are %v", errors)
	}
}
