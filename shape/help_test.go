package shape

import (
	"math/rand"
	"reflect"
	"slices"
	"strconv"

	"synchrony/api"
)

func variable(name string) api.Expr { return api.Expr{Kind: api.EVar, Name: name} }

func constant(t, v int) api.Expr { return api.Expr{Kind: api.EConst, T: t, V: v} }

// with has the kind and the arguments, and no other fields.
func with(kind int, args ...api.Expr) api.Expr { return api.Expr{Kind: kind, Args: args} }

func apply(op int, args ...api.Expr) api.Expr { return api.Expr{Kind: api.EOp, Op: op, Args: args} }

func when(e api.Expr, name string, t, v int) api.Expr {
	return api.Expr{Kind: api.EWhen, Name: name, T: t, V: v, Args: []api.Expr{e}}
}

func merge(name string, t int, args ...api.Expr) api.Expr {
	return api.Expr{Kind: api.EMerge, Name: name, T: t, Args: args}
}

func call(name string, args ...api.Expr) api.Expr {
	return api.Expr{Kind: api.ECall, Name: name, Args: args}
}

func periodic(name string) api.Expr { return api.Expr{Kind: api.EWord, Name: name} }

func decl(name string, t int, clock ...api.On) api.Decl {
	return api.Decl{Name: name, Type: t, Clock: clock}
}

func eq(right api.Expr, left ...string) api.Eq { return api.Eq{Left: left, Right: right} }

// numbered returns a list of n elements.
func numbered[T any](n int, element func(i int) T) []T {
	var l []T
	for i := range n {
		l = append(l, element(i))
	}
	return l
}

func names(n int) []string {
	return numbered(n, func(i int) string { return "v" + strconv.Itoa(i) })
}

func decls(n int) []api.Decl {
	return numbered(n, func(i int) api.Decl { return decl("v"+strconv.Itoa(i), api.TInt) })
}

func eqs(n int) []api.Eq {
	return numbered(n, func(i int) api.Eq { return eq(constant(api.TInt, i), "v"+strconv.Itoa(i)) })
}

func trans(n int) []api.Trans {
	return numbered(n, func(i int) api.Trans { return api.Trans{Cond: variable("a")} })
}

// autos has n automata of one empty state.
func autos(n int) []api.Auto {
	return numbered(n, func(i int) api.Auto { return api.Auto{States: []api.State{{Name: "S"}}} })
}

// nested is an automaton with depth levels.
func nested(depth int) api.Auto {
	s := api.State{Name: "S"}
	if depth > 1 {
		s.Autos = []api.Auto{nested(depth - 1)}
	}
	return api.Auto{States: []api.State{s}}
}

// full is a program in which each part occurs at least twice where there may be several.
func full() api.Program {
	light, mode := api.TEnum, api.TEnum+1
	state := func(name string, autos ...api.Auto) api.State {
		return api.State{
			Name:   name,
			Locals: []api.Decl{decl("k", api.TBool, api.On{Name: "l", T: light, Tag: 2}), decl("j", mode)},
			Eqs:    []api.Eq{eq(variable("a"), "k"), eq(call("f"), "j", "x")},
			Autos:  autos,
			Unless: []api.Trans{{Cond: variable("a"), To: 1}, {Cond: constant(api.TBool, 1), Resume: true}},
			Until:  []api.Trans{{Cond: with(api.EPre, variable("a")), To: 1, Resume: true}, {Cond: periodic("(10)")}},
		}
	}
	auto := func(inner ...api.Auto) api.Auto {
		return api.Auto{States: []api.State{state("S", inner...), state("T")}}
	}
	node := func(name string) api.Node {
		return api.Node{
			Name:   name,
			In:     []api.Decl{decl("a", api.TBool), decl("l", light)},
			Out:    []api.Decl{decl("x", api.TInt), decl("y", mode)},
			Locals: []api.Decl{decl("m", api.TInt, api.On{Name: "a", T: api.TBool, Tag: 1}, api.On{Name: "l", T: light, Tag: 1}), decl("n", mode)},
			Eqs: []api.Eq{
				eq(merge("l", light, constant(api.TInt, -1), variable("x"), when(constant(mode, 1), "a", api.TBool, 0)), "x"),
				eq(call("g", variable("a"), apply(api.OpNot, variable("a"))), "m", "n"),
				eq(with(api.EIf, variable("a"), with(api.EArrow, variable("x"), variable("y")), periodic("1(0)")), "y"),
			},
			Autos:  []api.Auto{auto(auto(auto(), auto()), auto()), auto()},
			Assume: []api.Expr{variable("a"), apply(api.OpEq, variable("l"), constant(light, 2))},
			Ensure: []api.Expr{constant(api.TBool, 0), variable("x")},
		}
	}
	return api.Program{
		Enums: []api.Enum{{Name: "Light", Tags: []string{"Red", "Green", "Amber"}}, {Name: "Mode", Tags: []string{"On", "Off"}}},
		Nodes: []api.Node{node("f"), node("g")},
	}
}

// deepCopy returns x in memory of its own.
func deepCopy[T any](x T) T {
	return copyOf(reflect.ValueOf(x)).Interface().(T)
}

func copyOf(v reflect.Value) reflect.Value {
	c := reflect.New(v.Type()).Elem()
	c.Set(v)
	switch v.Kind() {
	case reflect.Struct:
		for i := range v.NumField() {
			c.Field(i).Set(copyOf(v.Field(i)))
		}
	case reflect.Slice:
		if v.IsNil() {
			break
		}
		c.Set(reflect.MakeSlice(v.Type(), v.Len(), v.Len()))
		for i := range v.Len() {
			c.Index(i).Set(copyOf(v.Index(i)))
		}
	}
	return c
}

// parts calls visit for each part of what v points to: fields, lists, and elements of lists.
func parts(v reflect.Value, visit func(v reflect.Value)) {
	visit(v)
	switch v.Kind() {
	case reflect.Struct:
		for i := range v.NumField() {
			parts(v.Field(i), visit)
		}
	case reflect.Slice:
		for i := range v.Len() {
			parts(v.Index(i), visit)
		}
	}
}

// exprsOf returns the expressions of a program, and the expressions in these.
func exprsOf(p api.Program) []api.Expr {
	var l []api.Expr
	parts(reflect.ValueOf(&p).Elem(), func(v reflect.Value) {
		if e, ok := v.Interface().(api.Expr); ok {
			l = append(l, e)
		}
	})
	return l
}

// pick returns one of the elements.
func pick[T any](r *rand.Rand, l ...T) T { return l[r.Intn(len(l))] }

// listed returns the expressions in e in preorder.
func listed(e api.Expr) []api.Expr {
	l := []api.Expr{e}
	for _, a := range e.Args {
		l = slices.Concat(l, listed(a))
	}
	return l
}
