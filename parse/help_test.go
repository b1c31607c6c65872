package parse

import (
	"reflect"
	"strings"
	"testing"

	"synchrony/api"
	"synchrony/expr"
	"synchrony/lex"
	"synchrony/shape"
)

func variable(name string) api.Expr { return api.Expr{Kind: api.EVar, Name: name} }

func valueOf(t, v int) api.Expr { return api.Expr{Kind: api.EConst, T: t, V: v} }

func number(v int) api.Expr { return valueOf(api.TInt, v) }

func when(e api.Expr, name string, t, v int) api.Expr {
	return api.Expr{Kind: api.EWhen, Name: name, T: t, V: v, Args: []api.Expr{e}}
}

func merge(name string, t int, args ...api.Expr) api.Expr {
	return api.Expr{Kind: api.EMerge, Name: name, T: t, Args: args}
}

func call(name string, args ...api.Expr) api.Expr {
	return api.Expr{Kind: api.ECall, Name: name, Args: args}
}

func every(name string, args ...api.Expr) api.Expr {
	return api.Expr{Kind: api.ECall, Name: name, V: 1, Args: args}
}

func periodic(name string) api.Expr { return api.Expr{Kind: api.EWord, Name: name} }

// expectExpr checks that s is the text of the expression.
func expectExpr(t *testing.T, l []api.Enum, s string, want api.Expr) {
	t.Helper()
	e, at, err := Expr(l, s)
	if !expr.Same(e, want) || at != 0 || err != api.OK {
		t.Errorf("Expr(%.200q) = %v, %d, %d, want %v", s, e, at, int(err), want)
	}
}

// refuseExpr checks that s is not the text of an expression, and where and why.
func refuseExpr(t *testing.T, l []api.Enum, s string, at int, want api.Errno) {
	t.Helper()
	e, i, err := Expr(l, s)
	if !reflect.DeepEqual(e, api.Expr{}) || i != at || err != want {
		t.Errorf("Expr(%.200q) = %v, %d, %d, want %d, %d", s, e, i, int(err), at, int(want))
	}
}

// expectProgram checks that s is the text of the program.
func expectProgram(t *testing.T, s string, want api.Program) {
	t.Helper()
	p, at, e := Program(s)
	if !shape.Same(p, want) || at != 0 || e != api.OK {
		t.Fatalf("Program(%q) = %v, %d, %d, want %v", s, p, at, int(e), want)
	}
}

// refuseProgram checks that s is not the text of a program, and where and why.
func refuseProgram(t *testing.T, s string, at int, want api.Errno) {
	t.Helper()
	p, i, e := Program(s)
	if !reflect.DeepEqual(p, api.Program{}) || i != at || e != want {
		t.Errorf("Program(%.300q) = %v, %d, %d, want %d, %d", s, p, i, int(e), at, int(want))
	}
}

// refuseAtLast checks that s is wrong at its last token, whatever follows.
func refuseAtLast(t *testing.T, s string, want api.Errno) {
	t.Helper()
	tokens, _, _ := lex.Scan(s)
	refuseProgram(t, s, tokens[len(tokens)-1].At, want)
	refuseProgram(t, s+" 1 if )", tokens[len(tokens)-1].At, want)
}

// textsOf are the tokens of which the tests make texts.
func textsOf() []string {
	return strings.Fields("a b Red Green Only Blue 5 0 '(1)' + - * = < not and or -> fby pre if then else merge when every ( ) ( ) , true false ; let")
}
