package show

import (
	"slices"
	"strings"

	"synchrony/api"
	"synchrony/value"
)

// phrases makes the texts of well-formed parts of programs over these enumerations, as far as they stand on one line.
type phrases struct {
	enums   []api.Enum
	symbols map[int]string // those of the operators with two operands
}

func newPhrases(enums []api.Enum) phrases {
	return phrases{enums, map[int]string{
		api.OpAnd: "and", api.OpOr: "or", api.OpXor: "xor",
		api.OpAdd: "+", api.OpSub: "-", api.OpMul: "*", api.OpDiv: "/", api.OpMod: "mod",
		api.OpEq: "=", api.OpNe: "<>", api.OpLt: "<", api.OpLe: "<=", api.OpGt: ">", api.OpGe: ">=",
	}}
}

// joined returns the texts of the elements with a separator between them.
func joined[T any](l []T, separator string, text func(x T) string) string {
	texts := make([]string, len(l))
	for i, x := range l {
		texts[i] = text(x)
	}
	return strings.Join(texts, separator)
}

func brackets(s string) string { return "(" + s + ")" }

// value returns the text of a value, which its type has.
func (t phrases) value(of, v int) string {
	s, _ := value.Text(t.enums, of, v)
	return s
}

func (t phrases) expr(e api.Expr) string {
	switch e.Kind {
	case api.EConst:
		return t.value(e.T, e.V)
	case api.EOp:
		return t.operation(e)
	case api.EIf:
		return "if " + t.expr(e.Args[0]) + " then " + t.expr(e.Args[1]) + " else " + t.expr(e.Args[2])
	case api.EPre:
		return "pre " + t.operand(e.Args[0])
	case api.EArrow:
		return t.between(e, "->")
	case api.EFby:
		return t.between(e, "fby")
	case api.EWhen:
		return t.operand(e.Args[0]) + " " + t.sampling(api.On{Name: e.Name, T: e.T, Tag: e.V})
	case api.EMerge:
		return t.merge(e)
	case api.ECall:
		return t.call(e)
	case api.EWord:
		return "'" + e.Name + "'"
	}
	return e.Name
}

// operand returns the text of e where it is an operand.
func (t phrases) operand(e api.Expr) string {
	switch e.Kind {
	case api.EVar, api.EWord, api.ECall:
		return t.expr(e)
	case api.EConst:
		if e.T != api.TInt || e.V >= 0 {
			return t.expr(e)
		}
	}
	return brackets(t.expr(e))
}

// between returns the text of an expression with two operands.
func (t phrases) between(e api.Expr, symbol string) string {
	return t.operand(e.Args[0]) + " " + symbol + " " + t.operand(e.Args[1])
}

func (t phrases) operation(e api.Expr) string {
	switch e.Op {
	case api.OpNot:
		return "not " + t.operand(e.Args[0])
	case api.OpNeg:
		return "-" + t.negated(e.Args[0])
	}
	return t.between(e, t.symbols[e.Op])
}

// negated returns the text of e behind a minus sign, which a number without brackets would take as its own.
func (t phrases) negated(e api.Expr) string {
	if e.Kind == api.EConst && e.T == api.TInt {
		return brackets(t.expr(e))
	}
	return t.operand(e)
}

func (t phrases) merge(e api.Expr) string {
	branches := make([]string, len(e.Args))
	for v, a := range e.Args {
		branches[v] = " " + brackets(t.value(e.T, v)+" -> "+t.expr(a))
	}
	if e.T == api.TBool {
		slices.Reverse(branches) // true comes before false
	}
	return "merge " + e.Name + strings.Join(branches, "")
}

func (t phrases) call(e api.Expr) string {
	inputs := len(e.Args) - e.V
	s := e.Name + brackets(joined(e.Args[:inputs], ", ", t.expr))
	if e.V == 1 {
		s += " every " + t.operand(e.Args[inputs])
	}
	return s
}

func (t phrases) sampling(x api.On) string {
	return "when " + t.value(x.T, x.Tag) + brackets(x.Name)
}

func (t phrases) clock(ck []api.On) string { return joined(ck, " ", t.sampling) }

func (t phrases) decl(d api.Decl) string {
	name, _ := value.Name(t.enums, d.Type)
	s := d.Name + ": " + name
	if len(d.Clock) > 0 {
		s += " " + t.clock(d.Clock)
	}
	return s
}

func (t phrases) decls(l []api.Decl) string { return joined(l, "; ", t.decl) }

func (t phrases) equation(x api.Eq) string {
	left := strings.Join(x.Left, ", ")
	if len(x.Left) > 1 {
		left = brackets(left)
	}
	return left + " = " + t.expr(x.Right) + ";"
}

// transition returns the text of a transition to one of the states.
func (t phrases) transition(x api.Trans, states []api.State) string {
	keyword := " then "
	if x.Resume {
		keyword = " continue "
	}
	return t.expr(x.Cond) + keyword + states[x.To].Name + ";"
}
