package parse

import (
	"strconv"

	"synchrony/api"
)

// tree is an expression that the tokens up to the one with the number end can be.
type tree struct {
	e   api.Expr
	end int
}

// forest finds all the trees of the chapter's grammar that begin at a token; the trees of an "or" at the token 3 are kept as those of {or 3}.
type forest struct {
	tokens []api.Token
	kept   map[place][]tree
}

type place struct {
	name string
	at   int
}

// treesOf returns the expressions that all the tokens together can be.
func treesOf(tokens []api.Token) []api.Expr {
	f := forest{tokens, map[place][]tree{}}
	var l []api.Expr
	for _, x := range f.expr(0) {
		if x.end == len(tokens) {
			l = append(l, x.e)
		}
	}
	return l
}

func (f forest) keep(name string, at int, find func() []tree) []tree {
	p := place{name, at}
	if l, ok := f.kept[p]; ok {
		return l
	}
	f.kept[p] = find()
	return f.kept[p]
}

func (f forest) at(i int) api.Token {
	if i < len(f.tokens) {
		return f.tokens[i]
	}
	return api.Token{}
}

// has reports whether the tokens from i on are these keywords and symbols; "" stands for an identifier.
func (f forest) has(i int, texts ...string) bool {
	for k, s := range texts {
		t := f.at(i + k)
		if s == "" && t.Kind != api.TokIdent || s != "" && (t.Text != s || t.Kind == api.TokWord) {
			return false
		}
	}
	return true
}

func (f forest) expr(i int) []tree {
	return f.keep("expr", i, func() []tree {
		l := f.or(i)
		for _, a := range f.or(i) {
			kind := map[string]int{"->": api.EArrow, "fby": api.EFby}[f.at(a.end).Text]
			if kind == 0 || !f.has(a.end, f.at(a.end).Text) {
				continue
			}
			for _, b := range f.expr(a.end + 1) {
				l = append(l, tree{api.Expr{Kind: kind, Args: []api.Expr{a.e, b.e}}, b.end})
			}
		}
		return l
	})
}

// chain finds operands with operators between them, at most so many.
func (f forest) chain(name string, i, most int, operand func(i int) []tree, ops map[string]int) []tree {
	return f.keep(name, i, func() []tree {
		l := operand(i)
		for level := l; most > 0 && len(level) > 0; most-- {
			var longer []tree
			for _, a := range level {
				op := ops[f.at(a.end).Text]
				if op == 0 || !f.has(a.end, f.at(a.end).Text) {
					continue
				}
				for _, b := range operand(a.end + 1) {
					longer = append(longer, tree{api.Expr{Kind: api.EOp, Op: op, Args: []api.Expr{a.e, b.e}}, b.end})
				}
			}
			l, level = append(l, longer...), longer
		}
		return l
	})
}

func (f forest) or(i int) []tree {
	return f.chain("or", i, 99, f.and, map[string]int{"or": api.OpOr, "xor": api.OpXor})
}

func (f forest) and(i int) []tree {
	return f.chain("and", i, 99, f.not, map[string]int{"and": api.OpAnd})
}

func (f forest) not(i int) []tree {
	if !f.has(i, "not") {
		return f.cmp(i)
	}
	return wrap(f.not(i+1), api.Expr{Kind: api.EOp, Op: api.OpNot})
}

func (f forest) cmp(i int) []tree {
	return f.chain("cmp", i, 1, f.sum, map[string]int{"=": api.OpEq, "<>": api.OpNe, "<": api.OpLt, "<=": api.OpLe, ">": api.OpGt, ">=": api.OpGe})
}

func (f forest) sum(i int) []tree {
	return f.chain("sum", i, 99, f.prod, map[string]int{"+": api.OpAdd, "-": api.OpSub})
}

func (f forest) prod(i int) []tree {
	return f.chain("prod", i, 99, f.un, map[string]int{"*": api.OpMul, "/": api.OpDiv, "mod": api.OpMod})
}

func (f forest) un(i int) []tree {
	switch {
	case f.has(i, "-") && f.at(i+1).Kind != api.TokNumber:
		return wrap(f.un(i+1), api.Expr{Kind: api.EOp, Op: api.OpNeg})
	case f.has(i, "pre"):
		return wrap(f.un(i+1), api.Expr{Kind: api.EPre})
	}
	return f.post(i)
}

// wrap makes each of the trees the argument of an expression.
func wrap(l []tree, e api.Expr) []tree {
	var all []tree
	for _, a := range l {
		e.Args = []api.Expr{a.e}
		all = append(all, tree{e, a.end})
	}
	return all
}

func (f forest) post(i int) []tree {
	l := f.primary(i)
	for k := 0; k < len(l); k++ {
		a := l[k]
		if !f.has(a.end, "when") || !f.has(a.end+2, "(", "", ")") {
			continue
		}
		if t, v, ok := f.tag(a.end + 1); ok {
			l = append(l, tree{api.Expr{Kind: api.EWhen, Name: f.at(a.end + 3).Text, T: t, V: v, Args: []api.Expr{a.e}}, a.end + 5})
		}
	}
	return l
}

// tag returns the type and value of the tag at i.
func (f forest) tag(i int) (int, int, bool) {
	if f.has(i, "true") || f.has(i, "false") {
		return api.TBool, map[string]int{"true": 1}[f.at(i).Text], true
	}
	for k, x := range enums() {
		for v, tag := range x.Tags {
			if f.at(i).Kind == api.TokIdent && f.at(i).Text == tag {
				return api.TEnum + k, v, true
			}
		}
	}
	return 0, 0, false
}

func (f forest) primary(i int) []tree {
	t, v, tag := f.tag(i)
	switch {
	case f.at(i).Kind == api.TokNumber:
		return []tree{{f.number(i, 1), i + 1}}
	case f.has(i, "-") && f.at(i+1).Kind == api.TokNumber:
		return []tree{{f.number(i+1, -1), i + 2}}
	case f.at(i).Kind == api.TokWord:
		return []tree{{api.Expr{Kind: api.EWord, Name: f.at(i).Text}, i + 1}}
	case f.has(i, "", "("):
		return f.call(i)
	case tag:
		return []tree{{api.Expr{Kind: api.EConst, T: t, V: v}, i + 1}}
	case f.at(i).Kind == api.TokIdent:
		return []tree{{api.Expr{Kind: api.EVar, Name: f.at(i).Text}, i + 1}}
	case f.has(i, "if"):
		return f.choice(i)
	case f.has(i, "merge", "", "("):
		return f.merge(i)
	case f.has(i, "("):
		return f.then(f.expr(i+1), ")")
	}
	return nil
}

func (f forest) number(i, sign int) api.Expr {
	n, _ := strconv.Atoi(f.at(i).Text)
	return api.Expr{Kind: api.EConst, T: api.TInt, V: sign * n}
}

// then returns those trees that are followed by a text, with their ends behind it.
func (f forest) then(l []tree, text string) []tree {
	var all []tree
	for _, a := range l {
		if f.has(a.end, text) {
			all = append(all, tree{a.e, a.end + 1})
		}
	}
	return all
}

func (f forest) choice(i int) []tree {
	var l []tree
	for _, a := range f.then(f.expr(i+1), "then") {
		for _, b := range f.then(f.expr(a.end), "else") {
			longest := tree{end: -1}
			for _, c := range f.expr(b.end) {
				if c.end > longest.end {
					longest = c
				}
			}
			if longest.end >= 0 {
				l = append(l, tree{api.Expr{Kind: api.EIf, Args: []api.Expr{a.e, b.e, longest.e}}, longest.end})
			}
		}
	}
	return l
}

func (f forest) call(i int) []tree {
	open := []tree{{api.Expr{Kind: api.ECall, Name: f.at(i).Text}, i + 2}}
	closed := f.then(open, ")")
	for sep := ""; len(open) > 0; sep = "," {
		var longer []tree
		for _, a := range open {
			at := a.end
			if sep != "" {
				if !f.has(at, sep) {
					continue
				}
				at++
			}
			for _, b := range f.expr(at) {
				longer = append(longer, tree{added(a.e, b.e), b.end})
			}
		}
		closed, open = append(closed, f.then(longer, ")")...), longer
	}
	l := closed
	for _, a := range f.then(closed, "every") {
		for _, b := range f.primary(a.end) {
			e := added(a.e, b.e)
			e.V = 1
			l = append(l, tree{e, b.end})
		}
	}
	return l
}

// added returns e with one more argument.
func added(e, a api.Expr) api.Expr {
	e.Args = append(append([]api.Expr{}, e.Args...), a)
	return e
}

func (f forest) merge(i int) []tree {
	t, _, _ := f.tag(i + 3)
	order := []int{1, 0}
	if t >= api.TEnum {
		order = nil
		for v := range enums()[t-api.TEnum].Tags {
			order = append(order, v)
		}
	}
	l := []tree{{api.Expr{Kind: api.EMerge, Name: f.at(i + 1).Text, T: t}, i + 2}}
	for _, want := range order {
		var longer []tree
		for _, a := range l {
			if x, v, ok := f.tag(a.end + 1); !ok || x != t || v != want || !f.has(a.end, "(") || !f.has(a.end+2, "->") {
				continue
			}
			for _, b := range f.then(f.expr(a.end+3), ")") {
				longer = append(longer, tree{added(a.e, b.e), b.end})
			}
		}
		l = longer
	}
	for k, a := range l {
		if t == api.TBool {
			l[k].e.Args = []api.Expr{a.e.Args[1], a.e.Args[0]}
		}
	}
	return l
}
