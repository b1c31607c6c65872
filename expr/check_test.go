package expr

import (
	"math"
	"regexp"
	"slices"
	"strings"
	"testing"

	"synchrony/api"
	"synchrony/lex"
)

func expectCheck(t *testing.T, e api.Expr, want api.Errno) {
	t.Helper()
	if g := Check(e); g != want {
		t.Errorf("Check of the kind %d, the name %.80q, %d arguments = %d, want %d", e.Kind, e.Name, len(e.Args), int(g), int(want))
	}
}

func zero(n int) bool { return n == 0 }

func anything(int) bool { return true }

func from(least, most int) func(int) bool {
	return func(n int) bool { return least <= n && n <= most }
}

func either(tests ...func(int) bool) func(int) bool {
	return func(n int) bool {
		return slices.ContainsFunc(tests, func(test func(int) bool) bool { return test(n) })
	}
}

// wordForm is the form of the text of a word, but for its length.
var wordForm = regexp.MustCompile(`^[01]*\([01]+\)$`)

// row is what a row of the chapter's table permits; a row may stand for a part of a kind.
type row struct {
	args, op, t, v func(int) bool
	name           string // "ident", "word" or ""
}

// rows has the rows of the table that stand for a kind.
func rows(kind int) []row {
	enum := from(api.TEnum, math.MaxInt)
	switch kind {
	case api.EConst:
		return []row{
			{zero, zero, from(1, 1), from(0, 1), ""},
			{zero, zero, from(2, 2), from(-32768, 32767), ""},
			{zero, zero, enum, from(0, 15), ""},
		}
	case api.EVar:
		return []row{{zero, zero, zero, zero, "ident"}}
	case api.EOp:
		return []row{{from(1, 1), from(1, 2), zero, zero, ""}, {from(2, 2), from(3, 16), zero, zero, ""}}
	case api.EIf:
		return []row{{from(3, 3), zero, zero, zero, ""}}
	case api.EPre:
		return []row{{from(1, 1), zero, zero, zero, ""}}
	case api.EArrow, api.EFby:
		return []row{{from(2, 2), zero, zero, zero, ""}}
	case api.EWhen:
		return []row{{from(1, 1), zero, from(1, 1), from(0, 1), "ident"}, {from(1, 1), zero, enum, from(0, 15), "ident"}}
	case api.EMerge:
		return []row{{from(2, 2), zero, from(1, 1), zero, "ident"}, {from(1, 16), zero, enum, zero, "ident"}}
	case api.ECall:
		return []row{{anything, zero, zero, zero, "ident"}, {from(1, 64), zero, zero, from(1, 1), "ident"}}
	case api.EWord:
		return []row{{zero, zero, zero, zero, "word"}}
	}
	return nil
}

// errorOf is the error of one expression.
func errorOf(e api.Expr) api.Errno {
	if len(e.Args) > 64 {
		return api.ErrLimit
	}
	for _, r := range rows(e.Kind) {
		if !r.args(len(e.Args)) || !r.op(e.Op) || !r.t(e.T) || !r.v(e.V) {
			continue
		}
		isWord := wordForm.MatchString(e.Name) && len(e.Name) <= 66
		switch {
		case r.name == "ident" && !lex.Ident(e.Name):
			return api.ErrName
		case r.name == "ident" || r.name == "" && e.Name == "" || r.name == "word" && isWord:
			return api.OK
		}
	}
	return api.ErrForm
}

// errorIn is Check by the table.
func errorIn(e api.Expr) api.Errno {
	l := listed(e)
	if len(l) > 400 || Depth(e) > 32 {
		return api.ErrLimit
	}
	for _, x := range l {
		if err := errorOf(x); err != api.OK {
			return err
		}
	}
	return api.OK
}

// The tests of Check are P6.1.

func TestCheckFields(t *testing.T) {
	names := []string{"", "x", "if", "1(01)", "(0)"}
	for kind := -1; kind <= 14; kind++ {
		for _, op := range []int{-1, 0, 1, 2, 3, 10, 11, 16, 17} {
			for _, x := range []int{-1, 0, 1, 2, 3, 4, 100} {
				for _, v := range []int{-32769, -32768, -1, 0, 1, 2, 15, 16, 32767, 32768} {
					for _, n := range []int{0, 1, 2, 3, 4, 15, 16, 17, 63, 64, 65} {
						for _, name := range names {
							e := api.Expr{Kind: kind, Op: op, T: x, V: v, Name: name, Args: repeated(variable("a"), n)}
							if g, w := Check(e), errorOf(e); g != w {
								t.Fatalf("Check of kind %d, op %d, T %d, V %d, name %q, %d arguments = %d, want %d", kind, op, x, v, name, n, int(g), int(w))
							}
						}
					}
				}
			}
		}
	}
}

func TestCheckExtremeFields(t *testing.T) {
	for _, n := range []int{math.MinInt, -1 << 32, 1 << 16, 1 << 32, math.MaxInt} {
		expectCheck(t, with(n), api.ErrForm)
		expectCheck(t, apply(n, variable("x"), variable("x")), api.ErrForm)
		expectCheck(t, constant(api.TBool, n), api.ErrForm)
		expectCheck(t, constant(api.TInt, n), api.ErrForm)
		expectCheck(t, constant(api.TEnum, n), api.ErrForm)
		expectCheck(t, api.Expr{Kind: api.ECall, Name: "f", V: n, Args: repeated(variable("x"), 2)}, api.ErrForm)
	}
	expectCheck(t, constant(math.MaxInt, 15), api.OK)
	expectCheck(t, constant(math.MinInt, 0), api.ErrForm)
	expectCheck(t, merge("c", math.MaxInt, variable("x")), api.OK)
	expectCheck(t, merge("c", math.MinInt, variable("x"), variable("x")), api.ErrForm)
}

func TestCheckExamples(t *testing.T) {
	x, c := variable("x"), variable("c")
	expectCheck(t, api.Expr{}, api.ErrForm)
	expectCheck(t, api.Expr{Kind: api.EState, Name: "m"}, api.ErrForm)
	expectCheck(t, with(api.EIf, c, x), api.ErrForm)
	expectCheck(t, with(api.EIf, c, x, with(api.EFby, constant(api.TInt, 0), x)), api.OK)
	expectCheck(t, variable("if"), api.ErrName)
	expectCheck(t, merge("c", api.TBool, x, x), api.OK)
	expectCheck(t, merge("c", api.TBool, x), api.ErrForm)
	expectCheck(t, merge("c", api.TBool, x, x, x), api.ErrForm)
	expectCheck(t, merge("c", api.TInt, x, x), api.ErrForm)
	expectCheck(t, merge("c", api.TEnum, repeated(x, 16)...), api.OK)
	expectCheck(t, merge("c", api.TEnum, repeated(x, 17)...), api.ErrForm)
	expectCheck(t, merge("c", api.TEnum), api.ErrForm)
	expectCheck(t, call("f"), api.OK)
	expectCheck(t, call("f", repeated(x, 64)...), api.OK)
	expectCheck(t, api.Expr{Kind: api.ECall, Name: "f", V: 1}, api.ErrForm)
	expectCheck(t, api.Expr{Kind: api.ECall, Name: "f", V: 1, Args: []api.Expr{c}}, api.OK)
	expectCheck(t, api.Expr{Kind: api.EVar, Name: "x", Args: []api.Expr{}}, api.OK)
}

func TestCheckNames(t *testing.T) {
	wrong := []string{"", "if", "pre", "1", "1x", "_x", "x y", "x ", "é", "(1)", "'(1)'", strings.Repeat("a", 41)}
	for _, e := range []api.Expr{variable("x"), when(variable("a"), "x", 1), merge("x", api.TEnum, variable("a")), call("x"), call("x", variable("a"))} {
		for _, name := range []string{"x", "X_1", "iff", "a__", strings.Repeat("a", 40)} {
			e.Name = name
			expectCheck(t, e, api.OK)
		}
		for _, name := range wrong {
			e.Name = name
			expectCheck(t, e, api.ErrName)
			e.Op = 1
			expectCheck(t, e, api.ErrForm)
			e.Op = 0
		}
	}
}

func TestCheckWords(t *testing.T) {
	for _, s := range []string{"(0)", "(1)", "1(01)", "0000(1)", strings.Repeat("0", 63) + "(1)", "(" + strings.Repeat("01", 32) + ")"} {
		expectCheck(t, periodic(s), api.OK)
	}
	for _, s := range []string{"", "()", "1", "1()", "(1", "1)", ")1(", "(1)0", "((1))", "(1)(1)", "(2)", " (1)", "(1) ", "'(1)'", "x", strings.Repeat("0", 64) + "(1)", "(" + strings.Repeat("01", 33) + ")", strings.Repeat("0", 1<<20)} {
		expectCheck(t, periodic(s), api.ErrForm)
	}
}

func TestCheckDepth(t *testing.T) {
	for _, last := range []api.Expr{variable("x"), periodic("(1)"), call("f")} {
		expectCheck(t, chain(api.EPre, 31, last), api.OK)
		expectCheck(t, chain(api.EPre, 32, last), api.OK)
		expectCheck(t, chain(api.EPre, 33, last), api.ErrLimit)
		expectCheck(t, chain(api.EPre, 400, last), api.ErrLimit)
		expectCheck(t, chain(api.EPre, 1<<16, last), api.ErrLimit)
	}
	expectCheck(t, with(api.EArrow, variable("x"), chain(api.EPre, 31, variable("y"))), api.OK)
	expectCheck(t, with(api.EArrow, variable("x"), chain(api.EPre, 32, variable("y"))), api.ErrLimit)
	expectCheck(t, with(api.EArrow, chain(api.EPre, 32, variable("y")), variable("x")), api.ErrLimit)
}

// sized has n expressions, from 58 on, in three levels.
func sized(n int) api.Expr {
	e := call("f", repeated(call("g"), 57)...)
	for i := range n - 58 {
		e.Args[i%57].Args = append(slices.Clip(e.Args[i%57].Args), variable("x"))
	}
	return e
}

func TestCheckSize(t *testing.T) {
	for _, n := range []int{58, 399, 400} {
		if Size(sized(n)) != n {
			t.Fatalf("%d expressions instead of %d", Size(sized(n)), n)
		}
		expectCheck(t, sized(n), api.OK)
	}
	for _, n := range []int{401, 402, 1000} {
		expectCheck(t, sized(n), api.ErrLimit)
	}
	wide := variable("x")
	for range 40 {
		wide = with(api.EArrow, wide, wide)
	}
	expectCheck(t, wide, api.ErrLimit)
}

func TestCheckArguments(t *testing.T) {
	x := variable("x")
	expectCheck(t, call("f", repeated(x, 65)...), api.ErrLimit)
	expectCheck(t, call("if", repeated(x, 65)...), api.ErrLimit)
	expectCheck(t, with(0, repeated(x, 65)...), api.ErrLimit)
	expectCheck(t, with(api.EIf, repeated(x, 399)...), api.ErrLimit)
	expectCheck(t, with(0, repeated(x, 64)...), api.ErrForm)
	expectCheck(t, call("if", repeated(x, 64)...), api.ErrName)
	expectCheck(t, with(api.EPre, call("f", repeated(x, 65)...)), api.ErrLimit)
}

// TestCheckOrder: the limits of the whole come first, then an expression before its arguments, and these from the left.
func TestCheckOrder(t *testing.T) {
	x, name, wrong, many := variable("x"), variable("if"), with(0), call("f", repeated(variable("x"), 65)...)
	for _, c := range []struct {
		e    api.Expr
		want api.Errno
	}{
		{with(0, repeated(name, 400)...), api.ErrLimit},
		{with(0, chain(api.EPre, 32, x)), api.ErrLimit},
		{call("if", chain(api.EPre, 32, x)), api.ErrLimit},
		{with(0, many), api.ErrForm},
		{call("if", many), api.ErrName},
		{call("if", wrong), api.ErrName},
		{with(api.EPre, name, x), api.ErrForm},
		{with(api.EArrow, name, wrong), api.ErrName},
		{with(api.EArrow, wrong, name), api.ErrForm},
		{with(api.EArrow, name, many), api.ErrName},
		{with(api.EArrow, many, name), api.ErrLimit},
		{with(api.EArrow, with(api.EPre, name), wrong), api.ErrName},
		{with(api.EArrow, with(api.EPre, wrong), name), api.ErrForm},
		{with(api.EArrow, x, with(api.EPre, name)), api.ErrName},
		{with(api.EArrow, with(api.EPre, with(api.EPre, x, x)), name), api.ErrForm},
	} {
		expectCheck(t, c.e, c.want)
	}
}

func TestCheckSomeTrees(t *testing.T) {
	right := 0
	someTrees(func(e api.Expr) {
		want := errorIn(e)
		expectCheck(t, e, want)
		if want == api.OK {
			right++
		}
	})
	if right < 1000 {
		t.Errorf("only %d well-formed trees", right)
	}
}

// TestCheckOfArguments is P6.7.
func TestCheckOfArguments(t *testing.T) {
	someTrees(func(e api.Expr) {
		if Check(e) != api.OK {
			return
		}
		for _, x := range listed(e) {
			expectCheck(t, x, api.OK)
		}
	})
}

func TestCheckKeepsItsArgument(t *testing.T) {
	someTrees(func(e api.Expr) {
		before := deepCopy(e)
		Check(e)
		if !equal(e, before) {
			t.Errorf("%v became %v", before, e)
		}
	})
}
