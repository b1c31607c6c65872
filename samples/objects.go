package samples

import (
	"slices"
	"strconv"

	"synchrony/api"
	"synchrony/clone"
	"synchrony/obj"
	"synchrony/value"
)

// builder makes classes, statement by statement.
type builder struct {
	choose Choose
	api.Objects
	class api.Class // the one that is made, behind those before
}

// Objects returns right object code, in which no case is in a case by the same variable.
func Objects(choose Choose) api.Objects {
	b := &builder{choose: choose, Objects: api.Objects{Enums: Enums()}}
	for i := range 1 + choose(3) {
		b.class = api.Class{Name: "f" + strconv.Itoa(i), In: b.decls("a", 2+choose(3)), Locals: b.decls("v", 4+choose(6))}
		for _, d := range b.decls("m", choose(3)) {
			b.class.Mems = append(b.class.Mems, api.Mem{Name: d.Name, Type: d.Type, Init: b.some(d.Type)})
		}
		if i > 0 {
			for k := range 1 + choose(3) {
				b.class.Insts = append(b.class.Insts, api.Inst{Name: "i" + strconv.Itoa(k), Class: pick(choose, b.Classes...).Name})
			}
		}
		b.fill()
		b.Classes = append(b.Classes, b.class)
	}
	return b.Objects
}

func (b *builder) decls(letter string, n int) []api.Decl {
	var l []api.Decl
	for i := range n {
		l = append(l, api.Decl{Name: letter + strconv.Itoa(i), Type: pick(b.choose, api.TBool, api.TBool, api.TInt, api.TEnum, api.TEnum+b.choose(len(b.Enums)))})
	}
	return l
}

// some returns one of the first values of a type.
func (b *builder) some(t int) int { return b.choose(min(value.Size(b.Enums, t), 3)) }

// right reports whether the class is, and has no case in a case by the same variable.
func (b *builder) right() bool {
	return obj.Check(api.Objects{Enums: b.Enums, Classes: append(slices.Clone(b.Classes), b.class)}) == api.OK && !repeated(b.class.Step, nil)
}

// repeated reports whether a case in a list is in a case by the same variable. One of its branches is never executed then, and obj.Check ignores what earlier cases assign in theirs; but there it sees what is earlier in the same list, so that it can accept two cases and not the one that they are combined to.
func repeated(l []api.Stmt, around []string) bool {
	return slices.ContainsFunc(l, func(s api.Stmt) bool {
		if s.Kind != api.SCase {
			return false
		}
		within := append(slices.Clone(around), s.Name)
		in := func(branch []api.Stmt) bool { return repeated(branch, within) }
		return slices.Contains(around, s.Name) || slices.ContainsFunc(s.Branches, in)
	})
}

// fill adds steps to the class, and makes outputs of locals that they always assign.
func (b *builder) fill() {
	for range 60 + b.choose(80) {
		before := b.class.Step
		b.class.Step = clone.Stmts(before)
		b.insert(b.statement())
		if !b.right() {
			b.class.Step = before
		}
	}
	for _, d := range slices.Clone(b.class.Locals) {
		before := b.class
		b.class.Out = append(slices.Clone(before.Out), d)
		b.class.Locals = slices.DeleteFunc(slices.Clone(before.Locals), func(x api.Decl) bool { return x.Name == d.Name })
		if !b.right() {
			b.class = before
		}
	}
}

// insert puts a statement at the end of a list, or close to it.
func (b *builder) insert(s api.Stmt) {
	lists := []*[]api.Stmt{&b.class.Step}
	for i := 0; i < len(lists); i++ {
		for k := range *lists[i] {
			for n := range (*lists[i])[k].Branches {
				lists = append(lists, &(*lists[i])[k].Branches[n])
			}
		}
	}
	at := pick(b.choose, lists...)
	*at = slices.Insert(*at, len(*at)-b.choose(min(len(*at), 2)+1), s)
}

// statement returns a statement that could be right somewhere.
func (b *builder) statement() api.Stmt {
	d := pick(b.choose, slices.Concat(b.class.In, b.class.Locals)...)
	switch k := b.choose(10); {
	case k < 5 && d.Type != api.TInt:
		return api.Stmt{Kind: api.SCase, Name: d.Name, T: d.Type, Branches: make([][]api.Stmt, value.Size(b.Enums, d.Type))}
	case k == 5 && len(b.class.Mems) > 0:
		x := pick(b.choose, b.class.Mems...)
		return api.Stmt{Kind: api.SStore, Name: x.Name, Right: b.expression(x.Type, 2)}
	case k == 6 && len(b.class.Insts) > 0:
		return b.call(pick(b.choose, b.class.Insts...))
	case k == 7 && len(b.class.Insts) > 0:
		return api.Stmt{Kind: api.SReset, Name: pick(b.choose, b.class.Insts...).Name}
	}
	d = pick(b.choose, b.class.Locals...)
	return api.Stmt{Kind: api.SAssign, Name: d.Name, Right: b.expression(d.Type, 2)}
}

// call returns a call whose results can be for variables that are assigned already, or of other types.
func (b *builder) call(x api.Inst) api.Stmt {
	s := api.Stmt{Kind: api.SCall, Name: x.Name}
	c := b.Classes[slices.IndexFunc(b.Classes, func(c api.Class) bool { return c.Name == x.Class })]
	for _, d := range c.In {
		s.Args = append(s.Args, b.expression(d.Type, 1))
	}
	for _, d := range c.Out {
		if l := of(b.class.Locals, d.Type, nil); len(l) > 0 {
			d = pick(b.choose, l...)
		}
		s.Outs = append(s.Outs, d.Name)
	}
	return s
}

// expression returns one of a type, that reads variables of which some are not assigned.
func (b *builder) expression(t, depth int) api.Expr {
	vars := of(slices.Concat(b.class.In, b.class.In, b.class.Locals), t, nil)
	mems := slices.DeleteFunc(slices.Clone(b.class.Mems), func(x api.Mem) bool { return x.Type != t })
	one := func(t int) api.Expr { return b.expression(t, depth-1) }
	switch k := b.choose(9); {
	case k < 3 && len(vars) > 0:
		return api.Expr{Kind: api.EVar, Name: pick(b.choose, vars...).Name}
	case k == 3 && len(mems) > 0:
		return api.Expr{Kind: api.EState, Name: pick(b.choose, mems...).Name}
	case k == 4 && depth > 0:
		return api.Expr{Kind: api.EIf, Args: []api.Expr{one(api.TBool), one(t), one(t)}}
	case k < 7 && depth > 0 && t == api.TInt:
		return operation(pick(b.choose, api.OpAdd, api.OpSub, api.OpMul, api.OpDiv, api.OpMod), one(t), one(t))
	case k < 7 && depth > 0 && t == api.TBool:
		return b.truth(one)
	case k == 7 && depth > 0 && t == api.TInt:
		return operation(api.OpNeg, one(t))
	case k == 7 && depth > 0 && t == api.TBool:
		return operation(api.OpNot, one(t))
	}
	return api.Expr{Kind: api.EConst, T: t, V: b.some(t)}
}

// truth returns an operation of the type bool with two operands.
func (b *builder) truth(one func(t int) api.Expr) api.Expr {
	switch t := b.decls("", 1)[0].Type; t {
	case api.TBool:
		return operation(pick(b.choose, api.OpAnd, api.OpOr, api.OpXor, api.OpEq, api.OpNe), one(t), one(t))
	case api.TInt:
		return operation(pick(b.choose, api.OpEq, api.OpNe, api.OpLt, api.OpLe, api.OpGt, api.OpGe), one(t), one(t))
	default:
		return operation(pick(b.choose, api.OpEq, api.OpNe), one(t), one(t))
	}
}
