package expr

import (
	"math/rand"
	"slices"

	"synchrony/api"
)

func variable(name string) api.Expr { return api.Expr{Kind: api.EVar, Name: name} }

func constant(t, v int) api.Expr { return api.Expr{Kind: api.EConst, T: t, V: v} }

// with has the kind and the arguments, and no other fields.
func with(kind int, args ...api.Expr) api.Expr { return api.Expr{Kind: kind, Args: args} }

func apply(op int, args ...api.Expr) api.Expr { return api.Expr{Kind: api.EOp, Op: op, Args: args} }

func when(e api.Expr, name string, v int) api.Expr {
	return api.Expr{Kind: api.EWhen, Name: name, T: api.TBool, V: v, Args: []api.Expr{e}}
}

func merge(name string, t int, args ...api.Expr) api.Expr {
	return api.Expr{Kind: api.EMerge, Name: name, T: t, Args: args}
}

func call(name string, args ...api.Expr) api.Expr {
	return api.Expr{Kind: api.ECall, Name: name, Args: args}
}

func periodic(name string) api.Expr { return api.Expr{Kind: api.EWord, Name: name} }

// repeated returns a list of n equal expressions.
func repeated(e api.Expr, n int) []api.Expr { return slices.Repeat([]api.Expr{e}, n) }

// chain has n expressions, each one the argument of the one before.
func chain(kind, n int, last api.Expr) api.Expr {
	for range n - 1 {
		last = with(kind, last)
	}
	return last
}

// listed returns the expressions in e in preorder, by a list of those that are still to come.
func listed(e api.Expr) []api.Expr {
	var l []api.Expr
	for rest := []api.Expr{e}; len(rest) > 0; {
		x := rest[0]
		l = append(l, x)
		rest = slices.Concat(x.Args, rest[1:])
	}
	return l
}

// deepCopy returns e in memory of its own.
func deepCopy(e api.Expr) api.Expr {
	args := e.Args
	e.Args = nil
	for _, a := range args {
		e.Args = append(e.Args, deepCopy(a))
	}
	return e
}

// equal compares the expressions in a and b one by one: preorder and the numbers of arguments determine a tree.
func equal(a, b api.Expr) bool {
	return slices.EqualFunc(listed(a), listed(b), func(x, y api.Expr) bool {
		return x.Kind == y.Kind && x.Op == y.Op && x.T == y.T && x.V == y.V && x.Name == y.Name && len(x.Args) == len(y.Args)
	})
}

// spoil overwrites e and all its memory.
func spoil(e *api.Expr) {
	for i := range e.Args {
		spoil(&e.Args[i])
	}
	e.Kind, e.Name, e.T = e.Kind+1, "spoilt", 99
	clear(e.Args)
}

// pick returns one of the elements.
func pick[T any](r *rand.Rand, l ...T) T { return l[r.Intn(len(l))] }

// anyTree returns a tree of any kinds and fields.
func anyTree(r *rand.Rand, depth int) api.Expr {
	e := api.Expr{Kind: r.Intn(15) - 1, Name: pick(r, "", "x", "y", "z", "if", "(1)")}
	e.Op, e.T, e.V = pick(r, 0, 0, 1, 3), pick(r, 0, 0, 1, 2, 3), pick(r, 0, 0, 0, 1, 7)
	if depth > 1 {
		for range r.Intn(4) {
			e.Args = append(e.Args, anyTree(r, depth-1))
		}
	}
	return e
}

// rightTree returns a tree that is well-formed.
func rightTree(r *rand.Rand, depth int) api.Expr {
	kind := 1 + r.Intn(api.EWord)
	if depth == 1 {
		kind = pick(r, api.EConst, api.EVar, api.EWord, api.ECall)
	}
	args := func(n int) []api.Expr {
		var l []api.Expr
		for range n {
			l = append(l, rightTree(r, depth-1))
		}
		return l
	}
	name := pick(r, "x", "y", "z", "c")
	switch kind {
	case api.EConst:
		return pick(r, constant(api.TBool, r.Intn(2)), constant(api.TInt, r.Intn(65536)-32768), constant(api.TEnum+r.Intn(3), r.Intn(16)))
	case api.EVar:
		return variable(name)
	case api.EOp:
		op := 1 + r.Intn(api.OpGe)
		return apply(op, args(map[bool]int{true: 1, false: 2}[op <= api.OpNeg])...)
	case api.EIf:
		return with(kind, args(3)...)
	case api.EPre:
		return with(kind, args(1)...)
	case api.EArrow, api.EFby:
		return with(kind, args(2)...)
	case api.EWhen:
		return when(rightTree(r, depth-1), name, r.Intn(2))
	case api.EMerge:
		return pick(r, merge(name, api.TBool, args(2)...), merge(name, api.TEnum, args(1+r.Intn(3))...))
	case api.ECall:
		if depth == 1 {
			return call(name)
		}
		e := call(name, args(1+r.Intn(3))...)
		e.V = r.Intn(2)
		return e
	}
	return periodic(pick(r, "(1)", "0(01)", "1101(0)"))
}

// someTrees calls f with trees that are the same in each run: well-formed ones and any others.
func someTrees(f func(e api.Expr)) {
	r := rand.New(rand.NewSource(6))
	for i := range 3000 {
		f(anyTree(r, 1+i%5))
		f(rightTree(r, 1+i%5))
	}
}
