package emit

import (
	"cmp"
	"reflect"
	"slices"
	"strings"
	"testing"

	"synchrony/api"
	"synchrony/asm"
)

func v(name string) api.Expr { return api.Expr{Kind: api.EVar, Name: name} }

func state(name string) api.Expr { return api.Expr{Kind: api.EState, Name: name} }

func constant(t, v int) api.Expr { return api.Expr{Kind: api.EConst, T: t, V: v} }

func number(v int) api.Expr { return constant(api.TInt, v) }

func op(o int, args ...api.Expr) api.Expr { return api.Expr{Kind: api.EOp, Op: o, Args: args} }

func either(args ...api.Expr) api.Expr { return api.Expr{Kind: api.EIf, Args: args} }

func set(name string, e api.Expr) api.Stmt {
	return api.Stmt{Kind: api.SAssign, Name: name, Right: e}
}

func store(name string, e api.Expr) api.Stmt {
	return api.Stmt{Kind: api.SStore, Name: name, Right: e}
}

func call(name, outs string, args ...api.Expr) api.Stmt {
	return api.Stmt{Kind: api.SCall, Name: name, Outs: strings.Fields(outs), Args: args}
}

func reset(name string) api.Stmt { return api.Stmt{Kind: api.SReset, Name: name} }

func seq(l ...api.Stmt) []api.Stmt { return l }

func by(name string, t int, branches ...[]api.Stmt) api.Stmt {
	return api.Stmt{Kind: api.SCase, Name: name, T: t, Branches: branches}
}

// decls returns variables with these names: those in small letters are of the type int, those in capitals of the type bool, but E, F and G of the types of the enumerations.
func decls(names string) []api.Decl {
	var l []api.Decl
	for _, name := range strings.Fields(names) {
		t := api.TInt
		if i := strings.Index("EFG", name[:1]); i >= 0 {
			t = api.TEnum + i
		} else if name < "a" {
			t = api.TBool
		}
		l = append(l, api.Decl{Name: name, Type: t})
	}
	return l
}

func mems(names string) []api.Mem {
	var l []api.Mem
	for i, d := range decls(names) {
		l = append(l, api.Mem{Name: d.Name, Type: d.Type, Init: i % 2})
	}
	return l
}

// insts returns instances: their names, and the names of their classes behind colons.
func insts(s string) []api.Inst {
	var l []api.Inst
	for _, x := range strings.Fields(s) {
		name, class, _ := strings.Cut(x, ":")
		l = append(l, api.Inst{Name: name, Class: class})
	}
	return l
}

func objects(l ...api.Class) api.Objects {
	tags := func(n int) []string { return strings.Split("PQRST"[:n], "") }
	return api.Objects{Enums: []api.Enum{{Name: "E", Tags: tags(3)}, {Name: "F", Tags: tags(1)}, {Name: "G", Tags: tags(5)}}, Classes: l}
}

// parsed returns the image that is described by a text.
func parsed(t *testing.T, s string) api.Image {
	t.Helper()
	im, line, e := asm.Parse(s)
	if e != api.OK {
		t.Fatalf("line %d of\n%s\nis wrong: %d", line, s, int(e))
	}
	return im
}

// text returns an image as a text, for messages.
func text(im api.Image) string {
	s, _ := asm.Text(im)
	return s
}

// stretch is the memory of a list, to its capacity.
type stretch struct{ from, to uintptr }

// memory appends the memory of all lists in v that have some to l.
func memory(l []stretch, v reflect.Value) []stretch {
	switch v.Kind() {
	case reflect.Struct:
		for i := range v.NumField() {
			l = memory(l, v.Field(i))
		}
	case reflect.Slice:
		if v.Cap() > 0 {
			l = append(l, stretch{v.Pointer(), v.Pointer() + uintptr(v.Cap())*v.Type().Elem().Size()})
		}
		for i := range v.Len() {
			l = memory(l, v.Index(i))
		}
	}
	return l
}

// expectNewMemory checks that no two lists of the argument and the result share memory.
func expectNewMemory(t *testing.T, argument, result any) {
	t.Helper()
	l := memory(memory(nil, reflect.ValueOf(argument)), reflect.ValueOf(result))
	slices.SortFunc(l, func(a, b stretch) int { return cmp.Compare(a.from, b.from) })
	for i := 1; i < len(l); i++ {
		if l[i].from < l[i-1].to {
			t.Errorf("lists share memory")
			return
		}
	}
}
