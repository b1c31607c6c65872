package parse

import (
	"math/rand"
	"strconv"
	"strings"
	"testing"

	"synchrony/api"
	"synchrony/lex"
	"synchrony/shape"
)

// The tests of Expr are those of its trees, of its errors, and P8.1 to P8.5.

func TestExprExamples(t *testing.T) {
	a, b, c, x := variable("a"), variable("b"), variable("c"), variable("x")
	l := enums()
	expectExpr(t, l, "a -> b fby c", with(api.EArrow, a, with(api.EFby, b, c)))
	expectExpr(t, l, "a fby b -> c", with(api.EFby, a, with(api.EArrow, b, c)))
	expectExpr(t, l, "a - b - c", apply(api.OpSub, apply(api.OpSub, a, b), c))
	expectExpr(t, l, "- x when true(c)", apply(api.OpNeg, when(x, "c", api.TBool, 1)))
	expectExpr(t, l, "-1 when true(c)", when(number(-1), "c", api.TBool, 1))
	expectExpr(t, l, "merge c (true -> 1) (false -> 2)", merge("c", api.TBool, number(2), number(1)))
	expectExpr(t, l, "f(a) every r + 1", apply(api.OpAdd, every("f", a, variable("r")), number(1)))
	expectExpr(t, l, "not a = b", apply(api.OpNot, apply(api.OpEq, a, b)))
	expectExpr(t, l, "a - -1", apply(api.OpSub, a, number(-1)))
	refuseExpr(t, l, "a = b = c", 6, api.ErrForm)
}

// TestOperators: all pairs of operators with two operands, by their levels.
func TestOperators(t *testing.T) {
	a, b, c := variable("a"), variable("b"), variable("c")
	levels := [][]string{{"->", "fby"}, {"or", "xor"}, {"and"}, {}, {"=", "<>", "<", "<=", ">", ">="}, {"+", "-"}, {"*", "/", "mod"}}
	apply := func(s string, x, y api.Expr) api.Expr {
		switch s {
		case "->":
			return with(api.EArrow, x, y)
		case "fby":
			return with(api.EFby, x, y)
		}
		op := map[string]int{
			"or": api.OpOr, "xor": api.OpXor, "and": api.OpAnd, "=": api.OpEq, "<>": api.OpNe, "<": api.OpLt, "<=": api.OpLe, ">": api.OpGt, ">=": api.OpGe,
			"+": api.OpAdd, "-": api.OpSub, "*": api.OpMul, "/": api.OpDiv, "mod": api.OpMod,
		}[s]
		return api.Expr{Kind: api.EOp, Op: op, Args: []api.Expr{x, y}}
	}
	for i, l := range levels {
		for _, x := range l {
			expectExpr(t, nil, "a "+x+" b", apply(x, a, b))
			for k, m := range levels {
				for _, y := range m {
					s := "a " + x + " b " + y + " c"
					switch {
					case i == 4 && k == 4:
						refuseExpr(t, nil, s, len("a b ")+len(x)+1, api.ErrForm)
					case i < k || i == 0 && k == 0:
						expectExpr(t, nil, s, apply(x, a, apply(y, b, c)))
					default:
						expectExpr(t, nil, s, apply(y, apply(x, a, b), c))
					}
					expectExpr(t, nil, "a "+x+"(b "+y+" c)", apply(x, a, apply(y, b, c)))
					expectExpr(t, nil, "(a "+x+" b)"+y+" c", apply(y, apply(x, a, b), c))
				}
			}
		}
	}
}

func TestPrefixes(t *testing.T) {
	a, b := variable("a"), variable("b")
	not := func(e api.Expr) api.Expr { return apply(api.OpNot, e) }
	neg := func(e api.Expr) api.Expr { return apply(api.OpNeg, e) }
	pre := func(e api.Expr) api.Expr { return with(api.EPre, e) }
	expectExpr(t, nil, "not not a and b", apply(api.OpAnd, not(not(a)), b))
	expectExpr(t, nil, "a and not b = a or b", apply(api.OpOr, apply(api.OpAnd, a, not(apply(api.OpEq, b, a))), b))
	expectExpr(t, nil, "not a + b < a", not(apply(api.OpLt, apply(api.OpAdd, a, b), a)))
	expectExpr(t, nil, "not a -> not b", with(api.EArrow, not(a), not(b)))
	expectExpr(t, nil, "- a * b", apply(api.OpMul, neg(a), b))
	expectExpr(t, nil, "pre - pre a", pre(neg(pre(a))))
	expectExpr(t, nil, "a mod - - b", apply(api.OpMod, a, neg(neg(b))))
	expectExpr(t, nil, "pre a fby b", with(api.EFby, pre(a), b))
	expectExpr(t, nil, "pre a when true(c) when false(d)", pre(when(when(a, "c", api.TBool, 1), "d", api.TBool, 0)))
	for s, at := range map[string]int{"a = not b": 4, "a + not b": 4, "- not b": 2, "pre not b": 4, "a * not b": 4, "not a = b = a": 10, "(not a = b) = not a": 14, "a not b": 2, "a pre b": 2} {
		refuseExpr(t, nil, s, at, api.ErrForm)
	}
}

// TestMinus: a minus sign that is directly followed by a number begins a primary where an operand can begin.
func TestMinus(t *testing.T) {
	a := variable("a")
	neg := func(e api.Expr) api.Expr { return apply(api.OpNeg, e) }
	expectExpr(t, nil, "a -1", apply(api.OpSub, a, number(1)))
	expectExpr(t, nil, "a - - 1", apply(api.OpSub, a, number(-1)))
	expectExpr(t, nil, "- - 1", neg(number(-1)))
	expectExpr(t, nil, "- - - 1", neg(neg(number(-1))))
	expectExpr(t, nil, "-\n-- a remark\n1", number(-1))
	expectExpr(t, nil, "-(1)", neg(number(1)))
	expectExpr(t, nil, "-1-1", apply(api.OpSub, number(-1), number(1)))
	expectExpr(t, nil, "pre -1 - -1", apply(api.OpSub, with(api.EPre, number(-1)), number(-1)))
	expectExpr(t, nil, "f(-1) every -1", every("f", number(-1), number(-1)))
	expectExpr(t, nil, "f(-a, - 0)", call("f", neg(a), number(0)))
	expectExpr(t, nil, "- '(1)'", neg(periodic("(1)")))
	refuseExpr(t, nil, "f() every - a", 12, api.ErrForm)
	refuseExpr(t, nil, "f() every - - 1", 12, api.ErrForm)
	refuseExpr(t, nil, "f() every -", 11, api.ErrForm)
	refuseExpr(t, nil, "-", 1, api.ErrForm)
	refuseExpr(t, nil, "a - ", 4, api.ErrForm)
	refuseExpr(t, nil, "1 1", 2, api.ErrForm)
	refuseExpr(t, nil, "-1 1", 3, api.ErrForm)
}

func TestNumbers(t *testing.T) {
	for n := range 32768 {
		expectExpr(t, nil, strconv.Itoa(n), number(n))
		expectExpr(t, nil, "- "+strconv.Itoa(n), number(-n))
	}
	expectExpr(t, nil, "-32768", number(-32768))
	expectExpr(t, nil, "a - -32768", apply(api.OpSub, variable("a"), number(-32768)))
	expectExpr(t, nil, "- -32768", apply(api.OpNeg, number(-32768)))
	expectExpr(t, nil, "f() every -32768", every("f", number(-32768)))
	for s, at := range map[string]int{"32768": 0, "a - 32768": 4, "-(32768)": 2, "-1 - 32768": 5, "f(1, 32768": 5, "32768 )": 0, "pre 32768": 4, "f() every 32768": 10, "- -1 -32768 x": 6} {
		refuseExpr(t, nil, s, at, api.ErrRange)
	}
	refuseExpr(t, nil, "a 32768", 2, api.ErrForm)
	refuseExpr(t, nil, "x when 32768", 7, api.ErrForm)
}

func TestIf(t *testing.T) {
	a, b, c, d, e := variable("a"), variable("b"), variable("c"), variable("d"), variable("e")
	choice := func(l ...api.Expr) api.Expr { return with(api.EIf, l...) }
	expectExpr(t, nil, "if a then b else c + d", choice(a, b, apply(api.OpAdd, c, d)))
	expectExpr(t, nil, "a + if b then c else d -> e", apply(api.OpAdd, a, choice(b, c, with(api.EArrow, d, e))))
	expectExpr(t, nil, "if a then b else c when true(d)", choice(a, b, when(c, "d", api.TBool, 1)))
	expectExpr(t, nil, "(if a then b else c) when true(d)", when(choice(a, b, c), "d", api.TBool, 1))
	expectExpr(t, nil, "if a then if b then c else d else e", choice(a, choice(b, c, d), e))
	expectExpr(t, nil, "if a -> b then c fby d else e", choice(with(api.EArrow, a, b), with(api.EFby, c, d), e))
	expectExpr(t, nil, "f(a) every if b then c else d * e", every("f", a, choice(b, c, apply(api.OpMul, d, e))))
	expectExpr(t, nil, "not pre if a then b else c = d", apply(api.OpNot, with(api.EPre, choice(a, b, apply(api.OpEq, c, d)))))
	// An if takes the first comparison after its else, and cannot take a second one.
	expectExpr(t, nil, "if a then b else c = d = e", apply(api.OpEq, choice(a, b, apply(api.OpEq, c, d)), e))
	expectExpr(t, nil, "a + if a then b else c < d <> e", apply(api.OpNe, apply(api.OpAdd, a, choice(a, b, apply(api.OpLt, c, d))), e))
	refuseExpr(t, nil, "a = if a then b else c = d = e", 27, api.ErrForm)
	refuseExpr(t, nil, "if a then b else c = d = e = a", 27, api.ErrForm)
	refuseExpr(t, nil, "if a then b", 11, api.ErrForm)
	refuseExpr(t, nil, "if a else b", 5, api.ErrForm)
	refuseExpr(t, nil, "if a then b else", 16, api.ErrForm)
	refuseExpr(t, nil, "if then", 3, api.ErrForm)
}

func TestCalls(t *testing.T) {
	a, b, r := variable("a"), variable("b"), variable("r")
	expectExpr(t, nil, "f()", call("f"))
	expectExpr(t, nil, "f(a -> b, (a), g())", call("f", with(api.EArrow, a, b), a, call("g")))
	expectExpr(t, nil, "f() every r", every("f", r))
	expectExpr(t, nil, "f(a) every g(b) every r", every("f", a, every("g", b, r)))
	expectExpr(t, nil, "f(a) every (g(b)) when true(c)", when(every("f", a, call("g", b)), "c", api.TBool, 1))
	expectExpr(t, nil, "f (a)", call("f", a))
	for s, at := range map[string]int{"f(": 2, "f(,": 2, "f(a": 3, "f(a,": 4, "f(a,)": 4, "f(a b": 4, "f(a;": 3, "f(a))": 4, "a every b": 2, "(f(a)) every b": 7, "f(a) every": 10, "f(a) every not b": 11, "f(a) every pre b": 11, "f(a)(b)": 4, "f(a) b": 5, "if(a)": 5, "'(1)'(a)": 5, "1(a)": 1} {
		refuseExpr(t, nil, s, at, api.ErrForm)
	}
}

// TestTags: the first enumeration that has a tag counts, and the first index there.
func TestTags(t *testing.T) {
	l := []api.Enum{{Name: "A", Tags: []string{"X", "Y", "X"}}, {Name: "B"}, {Name: "C", Tags: []string{"Z", "Y", "V"}}, {Name: "A", Tags: []string{"W", "Z"}}}
	for name, want := range map[string]constant{"X": {3, 0}, "Y": {3, 1}, "Z": {5, 0}, "V": {5, 2}, "W": {6, 0}} {
		expectExpr(t, l, name, valueOf(want.t, want.v))
		expectExpr(t, l, "a when "+name+"("+name+")", when(variable("a"), name, want.t, want.v))
		expectExpr(t, l, name+"(a)", call(name, variable("a")))
		expectExpr(t, nil, name, variable(name))
		refuseExpr(t, nil, "a when "+name+"(c)", 7, api.ErrName)
	}
	expectExpr(t, l, "A", variable("A"))
	expectExpr(t, l, "a when true(X) when false(c)", when(when(variable("a"), "X", api.TBool, 1), "c", api.TBool, 0))
	expectExpr(t, l, "true or false", apply(api.OpOr, valueOf(api.TBool, 1), valueOf(api.TBool, 0)))
	refuseExpr(t, l, "a when A(c)", 7, api.ErrName)
	refuseExpr(t, l, "a when U", 7, api.ErrName)
	refuseExpr(t, l, "a when if", 7, api.ErrForm)
	refuseExpr(t, l, "a when (", 7, api.ErrForm)
	refuseExpr(t, l, "a when", 6, api.ErrForm)
	refuseExpr(t, l, "a when X c", 9, api.ErrForm)
	refuseExpr(t, l, "a when X(true", 9, api.ErrForm)
	refuseExpr(t, l, "a when X(c", 10, api.ErrForm)
	refuseExpr(t, l, "a when X(c) b", 12, api.ErrForm)
	refuseExpr(t, l, "true()", 4, api.ErrForm)
}

// TestTagsThatAreNoIdentifiers: an identifier alone is a tag, whatever the tags of the enumerations are.
func TestTagsThatAreNoIdentifiers(t *testing.T) {
	l := []api.Enum{{Name: "int", Tags: []string{"true", "if", "(", "1", "(1)", "", "a b"}}}
	expectExpr(t, l, "true", valueOf(api.TBool, 1))
	expectExpr(t, l, "(1)", number(1))
	expectExpr(t, l, "'(1)'", periodic("(1)"))
	refuseExpr(t, l, "if", 2, api.ErrForm)
	refuseExpr(t, l, "a when 1(c)", 7, api.ErrForm)
	refuseExpr(t, l, "a when '(1)'(c)", 7, api.ErrForm)
	refuseExpr(t, l, "a when if(c)", 7, api.ErrForm)
	refuseExpr(t, l, "a when a(c)", 7, api.ErrName)
}

func TestMerges(t *testing.T) {
	a, b := variable("a"), variable("b")
	l := enums()
	expectExpr(t, l, "merge c (true -> a -> b) (false -> (a))", merge("c", api.TBool, a, with(api.EArrow, a, b)))
	expectExpr(t, l, "merge Red (Red -> 0) (Green -> 1) (Blue -> 2)", merge("Red", api.TEnum, number(0), number(1), number(2)))
	expectExpr(t, l, "merge c (Only -> a) when Only(c)", when(merge("c", api.TEnum+1, a), "c", api.TEnum+1, 0))
	expectExpr(t, l, "merge c (Only -> merge d (true -> a) (false -> b))", merge("c", api.TEnum+1, merge("d", api.TBool, b, a)))
	expectExpr(t, l, "f() every merge c (Only -> a) + b", apply(api.OpAdd, every("f", merge("c", api.TEnum+1, a)), b))
	for s, at := range map[string]int{
		"merge": 5, "merge 1": 6, "merge c": 7, "merge c +": 8, "merge c (": 9, "merge c (1": 9, "merge c ()": 9, "merge c ('1'": 9,
		"merge c (false -> a) (true -> b)": 9, "merge c (Green -> a)": 9, "merge c (Blue": 9,
		"merge c (true": 13, "merge c (true a": 14, "merge c (true = a": 14, "merge c (true ->": 16, "merge c (true -> )": 17, "merge c (true -> a": 18, "merge c (true -> a,": 18,
		"merge c (true -> a)": 19, "merge c (true -> a) + b": 20, "merge c (true -> a) when true(b)": 20, "merge c (true -> a) (": 21,
		"merge c (true -> a) (true -> b)": 21, "merge c (true -> a) (Red -> b)": 21, "merge c (true -> a) (Other -> b)": 21, "merge c (true -> a) (1": 21,
		"merge c (true -> a) (false -> b) (": 33, "merge c (true -> a) (false -> b) (true -> b)": 33, "merge c (Only -> a) (Only -> b)": 20,
		"merge c (Red -> a) (Blue -> b)": 20, "merge c (Red -> a) (Red -> b)": 20, "merge c (Red -> a) (Green -> b)": 31, "merge c (Red -> a) (Green -> b) (Only": 33, "merge c (Red -> a) (true": 20,
		"merge c (Red -> a) (Unknown -> b)": 20, "merge c (Red -> a) (Green -> b) (Blue -> c) (Red": 44,
	} {
		refuseExpr(t, l, s, at, api.ErrForm)
	}
	refuseExpr(t, l, "merge c (Other -> a)", 9, api.ErrName)
	refuseExpr(t, l, "merge c (c", 9, api.ErrName)
	refuseExpr(t, nil, "merge c (Red -> a)", 9, api.ErrName)
}

// TestMergesOfRepeatedTags: a tag means a value of the first enumeration that has it, also in a merge.
func TestMergesOfRepeatedTags(t *testing.T) {
	l := []api.Enum{{Name: "A", Tags: []string{"X", "Y"}}, {Name: "B", Tags: []string{"Z", "Y"}}, {Name: "C", Tags: []string{"W", "W"}}}
	expectExpr(t, l, "merge c (X -> 0) (Y -> 1)", merge("c", api.TEnum, number(0), number(1)))
	refuseExpr(t, l, "merge c (Z -> 0) (Y -> 1)", 18, api.ErrForm)
	refuseExpr(t, l, "merge c (W -> 0) (W -> 1)", 18, api.ErrForm)
}

func TestWords(t *testing.T) {
	expectExpr(t, nil, "'1(01)'", periodic("1(01)"))
	expectExpr(t, nil, "'(1)' when true(c)", when(periodic("(1)"), "c", api.TBool, 1))
	expectExpr(t, nil, "f('(1)')", call("f", periodic("(1)")))
	for _, s := range []string{"''", "'1'", "'('", "')'", "'()'", "a + '(1)0'", "'" + strings.Repeat("0", 64) + "(1)'"} {
		refuseExpr(t, nil, s, 0, api.ErrForm)
	}
	// A word is no symbol, although its text may be that of one.
	for s, at := range map[string]int{"f '('": 2, "f('(' a": 6, "f(a')'": 3, "'('a)": 3, "(a')'": 2, "a when true '(' c)": 12, "a '1'": 2, "'(1)' '(1)'": 6} {
		refuseExpr(t, nil, s, at, api.ErrForm)
	}
}

// TestLexErrors: those of layer 3 come before all others.
func TestLexErrors(t *testing.T) {
	refuseExpr(t, nil, ") 01", 2, api.ErrForm)
	refuseExpr(t, nil, "a b 40000", 4, api.ErrRange)
	refuseExpr(t, nil, "32768 $", 6, api.ErrForm)
	refuseExpr(t, nil, "a when U(c) "+strings.Repeat("a", 41), 12, api.ErrLimit)
	refuseExpr(t, nil, strings.Repeat(" ", 65536)+"a", 0, api.ErrLimit)
	refuseExpr(t, nil, strings.Repeat("(", 65537), 0, api.ErrLimit)
	expectExpr(t, nil, strings.Repeat(" ", 65535)+"a", variable("a"))
	refuseExpr(t, nil, "", 0, api.ErrForm)
	refuseExpr(t, nil, " \n -- a", 7, api.ErrForm)
}

// TestShapeErrors: those of layer 7 come after all others, with the index 0.
func TestShapeErrors(t *testing.T) {
	terms := func(n int) string { return "a" + strings.Repeat(" * b", n-1) }
	deep := func(n int) string { return strings.Repeat("pre ", n-1) + "a" }
	list := func(n int) string { return "f(" + strings.Repeat("a, ", n-1) + "a)" }
	for _, s := range []string{"b + " + deep(31), deep(32), list(64), "f(" + strings.Repeat(list(48)+",", 7) + list(48) + ", a, a, a, a, a, a, a)", strings.Repeat("(", 9000) + "a" + strings.Repeat(")", 9000)} {
		if e, at, err := Expr(nil, s); err != api.OK || at != 0 || shape.Expr(nil, e) != api.OK {
			t.Errorf("Expr(%.50q) = %d, %d", s, at, int(err))
		}
	}
	for _, s := range []string{"b + " + deep(32), deep(33), terms(33), terms(16000), list(65), list(64) + " every r", "f(" + strings.Repeat(list(48)+",", 7) + list(48) + ", a, a, a, a, a, a, a, a)", "'2' + " + list(65)} {
		if _, _, e := lex.Scan(s); e == api.OK {
			refuseExpr(t, nil, s, 0, api.ErrLimit)
			refuseExpr(t, nil, s+" )", len(s)+1, api.ErrForm)
		}
	}
	many := []api.Enum{{Name: "E", Tags: strings.Fields("a b c d e f g h i j k l m n o p q")}}
	expectExpr(t, many, "p", valueOf(api.TEnum, 15))
	refuseExpr(t, many, "q", 0, api.ErrForm)
	refuseExpr(t, many, "merge x (a -> 1) (b -> 1) (c -> 1) (d -> 1) (e -> 1) (f -> 1) (g -> 1) (h -> 1) (i -> 1) (j -> 1) (k -> 1) (l -> 1) (m -> 1) (n -> 1) (o -> 1) (p -> 1) (q -> 1)", 0, api.ErrForm)
}

// TestNesting: brackets are nested as deeply as a text permits.
func TestNesting(t *testing.T) {
	n := 32767
	expectExpr(t, nil, strings.Repeat("(", n)+"a"+strings.Repeat(")", n), variable("a"))
	for _, s := range []string{"(", "f(", "- ", "not ", "pre ", "if ", "a->", "a+(", "f()every ", "if a then ", "if a then a else ", "merge c (true -> "} {
		l := strings.Repeat(s, api.MaxText/len(s))
		refuseExpr(t, nil, l, len(l), api.ErrForm)
	}
}

// compareExpr checks what Expr returns for a text of which the numbers are less than 32768.
func compareExpr(t *testing.T, general, special grammar, s string) {
	t.Helper()
	tokens, _, e := lex.Scan(s)
	if e != api.OK {
		t.Fatalf("%q has wrong tokens", s)
	}
	i, want := expected(general, special, "expr", tokens)
	switch {
	case want == api.OK:
		trees := treesOf(tokens)
		if len(trees) != 1 {
			t.Fatalf("%q has %d trees", s, len(trees))
		}
		expectExpr(t, enums(), s, trees[0])
	case i == len(tokens):
		refuseExpr(t, enums(), s, len(s), want)
	default:
		refuseExpr(t, enums(), s, tokens[i].At, want)
	}
}

// TestShortTexts compares Expr with the grammar for all texts of three tokens.
func TestShortTexts(t *testing.T) {
	general, special := read(chapter), read(meaningful(enums()))
	for _, a := range textsOf() {
		compareExpr(t, general, special, a)
		for _, b := range textsOf() {
			compareExpr(t, general, special, a+" "+b)
			for _, c := range textsOf() {
				compareExpr(t, general, special, a+" "+b+" "+c)
			}
		}
	}
}

// walk returns tokens with which the grammar can continue, most of them, up to one with which it cannot.
func walk(r *rand.Rand, special grammar, texts []string, start string) []string {
	var l []string
	for reader := recognize(special, start); len(l) < 60; {
		s := texts[r.Intn(len(texts))]
		tokens, _, _ := lex.Scan(s)
		switch {
		case len(l) > 4 && reader.complete(start) && r.Intn(5) == 0:
			return l
		case reader.goOn(tokens[0]):
			l = append(l, s)
		case r.Intn(80) == 0:
			return append(l, s)
		}
	}
	return l
}

// TestLongTexts compares Expr with the grammar for long texts that it nearly permits.
func TestLongTexts(t *testing.T) {
	r := rand.New(rand.NewSource(8))
	general, special := read(chapter), read(meaningful(enums()))
	permitted := 0
	for range 4000 {
		l := walk(r, special, textsOf(), "expr")
		s := strings.Join(l, " ")
		compareExpr(t, general, special, s)
		if _, _, e := Expr(enums(), s); e == api.OK && len(l) > 4 {
			permitted++
		}
	}
	if permitted < 1000 {
		t.Errorf("only %d long texts were permitted", permitted)
	}
}
