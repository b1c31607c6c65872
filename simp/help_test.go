package simp

import (
	"cmp"
	"reflect"
	"slices"
	"strings"
	"testing"

	"synchrony/api"
	"synchrony/norm"
	"synchrony/parse"
	"synchrony/show"
)

// node returns the last node of a program that is in normal form.
func node(t *testing.T, s string) api.NNode {
	t.Helper()
	p, at, e := parse.Program(s)
	if e != api.OK {
		t.Fatalf("%.60q.. is refused at %d (%.20q) with the error %d", s, at, s[at:], int(e))
	}
	n, e := norm.Program(p)
	if s, _ := show.Program(p); e != api.OK || s != program(n) {
		t.Fatalf("%s is not in normal form; the error is %d", s, int(e))
	}
	return n.Nodes[len(n.Nodes)-1]
}

// program returns the text of a program.
func program(n api.NProgram) string {
	s, _ := show.Program(norm.Back(n))
	return s
}

// text returns the text of a node over the enumerations, without what is before its locals, and without the line breaks.
func text(enums []api.Enum, n api.NNode) string {
	s := program(api.NProgram{Enums: enums, Nodes: []api.NNode{n}})
	s = strings.Join(strings.Fields(s[strings.Index(s, "node "):]), " ")
	if i := strings.Index(s, " var "); i >= 0 {
		return s[i+1:]
	}
	return s[strings.Index(s, " let ")+1:]
}

func v(name string) api.Expr { return api.Expr{Kind: api.EVar, Name: name} }

func number(v int) api.Expr { return constant(api.TInt, v) }

func with(kind int, args ...api.Expr) api.Expr { return api.Expr{Kind: kind, Args: args} }

func op(op int, args ...api.Expr) api.Expr { return api.Expr{Kind: api.EOp, Op: op, Args: args} }

// deepCopy returns x in memory of its own.
func deepCopy[T any](x T) T { return deepCopyOf(reflect.ValueOf(x)).Interface().(T) }

func deepCopyOf(v reflect.Value) reflect.Value {
	c := reflect.New(v.Type()).Elem()
	c.Set(v)
	switch v.Kind() {
	case reflect.Struct:
		for i := range v.NumField() {
			c.Field(i).Set(deepCopyOf(v.Field(i)))
		}
	case reflect.Slice:
		c.SetZero()
		for i := range v.Len() {
			c = reflect.Append(c, deepCopyOf(v.Index(i)))
		}
	}
	return c
}

// stretch is the memory of a list, to its capacity.
type stretch struct{ from, to uintptr }

// memory returns the memory of all lists in v that have some.
func memory(v reflect.Value) []stretch {
	var l []stretch
	switch v.Kind() {
	case reflect.Struct:
		for i := range v.NumField() {
			l = append(l, memory(v.Field(i))...)
		}
	case reflect.Slice:
		if v.Cap() > 0 {
			l = append(l, stretch{v.Pointer(), v.Pointer() + uintptr(v.Cap())*v.Type().Elem().Size()})
		}
		for i := range v.Len() {
			l = append(l, memory(v.Index(i))...)
		}
	}
	return l
}

// expectNewMemory checks that no two lists of the argument and the result share memory.
func expectNewMemory(t *testing.T, what string, argument, result any) {
	t.Helper()
	l := slices.Concat(memory(reflect.ValueOf(argument)), memory(reflect.ValueOf(result)))
	slices.SortFunc(l, func(a, b stretch) int { return cmp.Compare(a.from, b.from) })
	for i := 1; i < len(l); i++ {
		if l[i].from < l[i-1].to {
			t.Errorf("%s: lists share memory", what)
			return
		}
	}
}

// sameNode reports whether two nodes are equal.
func sameNode(a, b api.NNode) bool {
	return norm.Same(api.NProgram{Nodes: []api.NNode{a}}, api.NProgram{Nodes: []api.NNode{b}})
}

// function is one of the functions that simplify a node, and what the document says about it, step by step.
type function struct {
	name string
	f    func(n api.NNode) api.NNode
	ref  func(n api.NNode) api.NNode
}

func functions() []function {
	return []function{
		{"Consts", Consts, refConsts},
		{"Copies", Copies, refCopies},
		{"Common", Common, refCommon},
		{"Dead", Dead, refDead},
	}
}
