package parse

import (
	"slices"

	"synchrony/api"
	"synchrony/value"
)

// The levels of the operators; those of higher levels bind their operands more tightly.
const (
	disjunction = iota
	conjunction
	negation
	comparison
	sum
	product
)

// operator is an operator with two operands.
type operator struct {
	text  string
	op    int
	level int
}

var operators = [...]operator{
	{"or", api.OpOr, disjunction},
	{"xor", api.OpXor, disjunction},
	{"and", api.OpAnd, conjunction},
	{"=", api.OpEq, comparison},
	{"<>", api.OpNe, comparison},
	{"<", api.OpLt, comparison},
	{"<=", api.OpLe, comparison},
	{">", api.OpGt, comparison},
	{">=", api.OpGe, comparison},
	{"+", api.OpAdd, sum},
	{"-", api.OpSub, sum},
	{"*", api.OpMul, product},
	{"/", api.OpDiv, product},
	{"mod", api.OpMod, product},
}

func with(kind int, args ...api.Expr) api.Expr { return api.Expr{Kind: kind, Args: args} }

func apply(op int, args ...api.Expr) api.Expr {
	return api.Expr{Kind: api.EOp, Op: op, Args: args}
}

func (r *reader) expr() api.Expr {
	left := r.operation(disjunction)
	switch {
	case r.take("->"):
		return with(api.EArrow, left, r.expr())
	case r.take("fby"):
		return with(api.EFby, left, r.expr())
	}
	return left
}

// operation reads operands with operators of this level and of higher ones between them. One function for all levels needs less of the stack than one for each, so that brackets can be nested as deeply as a text permits.
func (r *reader) operation(level int) api.Expr {
	var left api.Expr
	most := product // the highest level of the operators that can have left as an operand
	if level <= negation && r.take("not") {
		left, most = apply(api.OpNot, r.operation(negation)), negation-1
	} else {
		left = r.unary()
	}
	for {
		x, ok := r.takeOperator(level, most)
		if !ok {
			return left
		}
		left, most = apply(x.op, left, r.operation(x.level+1)), x.level
		if x.level == comparison {
			most = comparison - 1
		}
	}
}

// takeOperator skips an operator of a level from least to most, if one comes next, and returns it.
func (r *reader) takeOperator(least, most int) (operator, bool) {
	for _, x := range operators {
		if x.level >= least && x.level <= most && r.take(x.text) {
			return x, true
		}
	}
	return operator{}, false
}

func (r *reader) unary() api.Expr {
	switch {
	case r.is("-") && r.following().Kind != api.TokNumber:
		r.skip()
		return apply(api.OpNeg, r.unary())
	case r.take("pre"):
		return with(api.EPre, r.unary())
	}
	return r.sampled()
}

// sampled reads a primary and the samplings behind it.
func (r *reader) sampled() api.Expr {
	e := r.primary()
	for r.take("when") {
		x := r.sampling()
		e = api.Expr{Kind: api.EWhen, Name: x.Name, T: x.T, V: x.Tag, Args: []api.Expr{e}}
	}
	return e
}

func (r *reader) primary() api.Expr {
	switch {
	case r.peek().Kind == api.TokNumber, r.is("-"):
		return r.number()
	case r.isIdent() && written(r.following(), "("):
		return r.call()
	case r.peek().Kind == api.TokWord:
		return api.Expr{Kind: api.EWord, Name: r.skip().Text}
	case r.take("if"):
		return r.choice()
	case r.take("merge"):
		return r.merge()
	case r.take("("):
		e := r.expr()
		r.expect(")")
		return e
	}
	if c, ok := r.meaning(); ok {
		r.skip()
		return api.Expr{Kind: api.EConst, T: c.t, V: c.v}
	}
	return api.Expr{Kind: api.EVar, Name: r.ident()}
}

// number reads a number with or without a minus sign.
func (r *reader) number() api.Expr {
	sign := 1
	if r.take("-") {
		sign = -1
	}
	if r.peek().Kind != api.TokNumber {
		r.fail(api.ErrForm)
	}
	n := sign * natural(r.peek().Text)
	if n > api.MaxInt {
		r.fail(api.ErrRange)
	}
	r.skip()
	return api.Expr{Kind: api.EConst, T: api.TInt, V: n}
}

func natural(digits string) int {
	n := 0
	for _, c := range digits {
		n = n*10 + int(c-'0')
	}
	return n
}

func (r *reader) call() api.Expr {
	e := api.Expr{Kind: api.ECall, Name: r.ident()}
	r.expect("(")
	for more := !r.is(")"); more; more = r.take(",") {
		e.Args = append(e.Args, r.expr())
	}
	r.expect(")")
	if r.take("every") {
		e.V = 1
		e.Args = append(e.Args, r.primary())
	}
	return e
}

// choice reads what follows an "if".
func (r *reader) choice() api.Expr {
	condition := r.expr()
	r.expect("then")
	yes := r.expr()
	r.expect("else")
	return with(api.EIf, condition, yes, r.expr())
}

// merge reads what follows a "merge".
func (r *reader) merge() api.Expr {
	e := api.Expr{Kind: api.EMerge, Name: r.ident()}
	r.expect("(")
	e.T = r.nextTag().t
	for n := range value.Size(r.enums, e.T) {
		if n > 0 {
			r.expect("(")
		}
		r.branchTag(e.T, n)
		r.expect("->")
		e.Args = append(e.Args, r.expr())
		r.expect(")")
	}
	if e.T == api.TBool {
		slices.Reverse(e.Args) // the branch of true is written first
	}
	return e
}

// branchTag reads the tag of the branch of a merge of the type t that n others precede.
func (r *reader) branchTag(t, n int) {
	want := constant{t, n}
	if t == api.TBool {
		want.v = 1 - n
	}
	if c, _ := r.meaning(); c != want {
		r.fail(api.ErrForm)
	}
	r.skip()
}
