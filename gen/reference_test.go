package gen

import (
	"math/rand"
	"reflect"
	"slices"
	"strconv"
	"testing"

	"synchrony/api"
	"synchrony/sched"
)

// The reference does what the chapter says, word by word.

func refStripped(e api.Expr) api.Expr {
	if e.Kind == api.EWhen && len(e.Args) > 0 {
		return refStripped(e.Args[0])
	}
	var args []api.Expr
	for _, a := range e.Args {
		args = append(args, refStripped(a))
	}
	e.Args = args
	return e
}

func refAssign(name string, e api.Expr) api.Stmt {
	if e.Kind == api.EMerge {
		s := by(e.Name, e.T)
		for _, a := range e.Args {
			s.Branches = append(s.Branches, seq(refAssign(name, a)))
		}
		return s
	}
	return assign(name, refStripped(e))
}

func refUnder(ck []api.On, l []api.Stmt) []api.Stmt {
	if len(ck) == 0 {
		return l
	}
	l = refUnder(ck[1:], l)
	count := 2
	if ck[0].T != api.TBool {
		count = ck[0].Tag + 1
	}
	s := by(ck[0].Name, ck[0].T)
	for i := range count {
		if i == ck[0].Tag {
			s.Branches = append(s.Branches, l)
		} else {
			s.Branches = append(s.Branches, nil)
		}
	}
	return seq(s)
}

// refWord returns the letters of a word and the length of its head.
func refWord(s string) (letters []bool, head int, ok bool) {
	head = -1
	for i, r := range s {
		switch {
		case r == '(' && head < 0:
			head = i
		case (r == '0' || r == '1') && i < len(s)-1:
			letters = append(letters, r == '1')
		case r == ')' && head >= 0 && i == len(s)-1:
			return letters, head, len(letters) > head && len(letters) <= api.MaxWord
		default:
			return nil, 0, false
		}
	}
	return nil, 0, false
}

func refLetter(letters []bool, lo, hi int, c api.Expr) api.Expr {
	ones := 0
	for i := lo; i < hi; i++ {
		if letters[i] {
			ones++
		}
	}
	switch ones {
	case 0:
		return api.Expr{Kind: api.EConst, T: api.TBool, V: 0}
	case hi - lo:
		return api.Expr{Kind: api.EConst, T: api.TBool, V: 1}
	}
	mid := lo + (hi-lo)/2
	less := api.Expr{Kind: api.EOp, Op: api.OpLt, Args: []api.Expr{c, number(mid)}}
	return api.Expr{Kind: api.EIf, Args: []api.Expr{less, refLetter(letters, lo, mid, c), refLetter(letters, mid, hi, c)}}
}

// refName adds the name for a letter of a class.
func refName(n api.NNode, used *[]string, letter string) string {
	for k := 1; ; k++ {
		name := letter + "_" + strconv.Itoa(k)
		of := func(d api.Decl) bool { return d.Name == name }
		if !slices.ContainsFunc(n.In, of) && !slices.ContainsFunc(n.Out, of) && !slices.ContainsFunc(n.Locals, of) && !slices.Contains(*used, name) {
			*used = append(*used, name)
			return name
		}
	}
}

func refType(n api.NNode, name string) int {
	for _, l := range [][]api.Decl{n.In, n.Out, n.Locals} {
		for _, d := range l {
			if d.Name == name {
				return d.Type
			}
		}
	}
	return 0
}

func refClass(n api.NNode) (api.Class, api.Errno) {
	if !sched.Right(n) {
		return api.Class{}, api.ErrOrder
	}
	c := api.Class{Name: n.Name}
	for _, l := range []struct{ from, to *[]api.Decl }{{&n.In, &c.In}, {&n.Out, &c.Out}, {&n.Locals, &c.Locals}} {
		for _, d := range *l.from {
			*l.to = append(*l.to, api.Decl{Name: d.Name, Type: d.Type})
		}
	}
	var first, then []api.Stmt
	var used []string
	for _, x := range n.Eqs {
		for _, on := range x.Clock {
			if on.Tag < 0 || on.T == api.TBool && on.Tag > 1 || on.Tag >= api.MaxTags {
				return api.Class{}, api.ErrForm
			}
		}
		left := append(slices.Clone(x.Left), "")[0]
		var l []api.Stmt
		switch x.Kind {
		case api.NDef:
			l = seq(refAssign(left, x.Right))
		case api.NDelay:
			m := refName(n, &used, "m")
			c.Mems = append(c.Mems, api.Mem{Name: m, Type: refType(n, left), Init: x.Init})
			first = append(first, assign(left, state(m)))
			l = seq(store(m, x.Right))
		case api.NCall:
			i := refName(n, &used, "i")
			c.Insts = append(c.Insts, api.Inst{Name: i, Class: x.Node})
			if x.Every != "" {
				l = seq(by(x.Every, api.TBool, nil, seq(reset(i))))
			}
			s := api.Stmt{Kind: api.SCall, Name: i, Outs: x.Left}
			for _, a := range x.Args {
				s.Args = append(s.Args, refStripped(a))
			}
			l = append(l, s)
		case api.NWord:
			letters, head, ok := refWord(x.Node)
			if !ok {
				return api.Class{}, api.ErrForm
			}
			m := refName(n, &used, "m")
			c.Mems = append(c.Mems, api.Mem{Name: m, Type: api.TInt})
			same := apply(api.OpEq, state(m), number(len(letters)-1))
			l = seq(assign(left, refLetter(letters, 0, len(letters), state(m))), store(m, either(same, number(head), sum(state(m), number(1)))))
		default:
			continue
		}
		then = append(then, refUnder(x.Clock, l)...)
	}
	c.Step = slices.Concat(first, then)
	return c, api.OK
}

func pick[T any](r *rand.Rand, l ...T) T { return l[r.Intn(len(l))] }

// times returns up to n results.
func times[T any](r *rand.Rand, n int, f func() T) []T {
	var l []T
	for range r.Intn(n + 1) {
		l = append(l, f())
	}
	return l
}

// anyNode returns a node in which anything can be wrong.
func anyNode(r *rand.Rand) api.NNode {
	names := []string{"a", "b", "c", "d", "m_1", "m_2", "m_3", "i_1", "i_2", ""}
	name := func() string { return pick(r, names...) }
	tags := pick(r, 2, 2, 4, 18) // sometimes more than there can be
	clock := func() []api.On {
		return times(r, r.Intn(3), func() api.On {
			return api.On{Name: name(), T: r.Intn(6) - 1, Tag: r.Intn(tags) - r.Intn(20)/19}
		})
	}
	var expression func(depth int) api.Expr
	expression = func(depth int) api.Expr {
		e := api.Expr{Kind: pick(r, api.EConst, api.EVar, api.EOp, api.EWhen, api.EWhen, api.EMerge, api.EMerge, r.Intn(14)), Name: name(), Op: r.Intn(3), T: r.Intn(4), V: r.Intn(3)}
		if depth > 0 {
			e.Args = times(r, 3, func() api.Expr { return expression(depth - 1) })
		}
		return e
	}
	decl := func() api.Decl { return api.Decl{Name: name(), Type: r.Intn(6), Clock: clock()} }
	words := []string{"(1)", "1(01)", "0110(100)", "(0011)", "1(1)", "(01101001)"}
	if r.Intn(3) == 0 {
		words = append(words, "(", "", "()", "01", "1(0", "(0)1", "(2)", "((0))", " (0)")
	}
	equation := func() api.NEq {
		x := api.NEq{Kind: pick(r, api.NDef, api.NDelay, api.NCall, api.NWord, r.Intn(7)), Left: times(r, 2, name), Clock: clock(), Init: r.Intn(5) - 2, Node: pick(r, words...), Right: expression(r.Intn(4))}
		if r.Intn(2) == 0 {
			x.Args, x.Every = times(r, 2, func() api.Expr { return expression(2) }), pick(r, name(), "")
		}
		return x
	}
	return api.NNode{Name: name(), In: times(r, 3, decl), Out: times(r, 2, decl), Locals: times(r, 3, decl), Eqs: times(r, 6, equation)}
}

// TestReference is P23.1 for any nodes.
func TestReference(t *testing.T) {
	r := rand.New(rand.NewSource(1))
	errors, kinds := map[api.Errno]int{}, map[int]int{}
	for range 25000 {
		n := anyNode(r)
		if is, e := sched.Node(n); e == api.OK && r.Intn(2) == 0 {
			n = is
		}
		before := deepCopy(n)
		c, e := Class(n)
		want, f := refClass(deepCopy(n))
		if e != f || !sameClass(c, want) {
			t.Fatalf("the class of\n%v is\n%v, want\n%v; the errors are %d and %d", n, c, want, int(e), int(f))
		}
		if !reflect.DeepEqual(deepCopy(n), before) {
			t.Fatalf("the argument %v has changed", before)
		}
		expectNewMemory(t, n, c)
		errors[e]++
		for _, s := range c.Step {
			kinds[s.Kind]++
		}
		if t.Failed() {
			return
		}
	}
	for _, e := range []api.Errno{api.OK, api.ErrOrder, api.ErrForm} {
		if errors[e] < 1000 {
			t.Errorf("the errors are %v", errors)
		}
	}
	for _, kind := range []int{api.SAssign, api.SStore, api.SCase, api.SCall} {
		if kinds[kind] < 2000 {
			t.Errorf("the kinds of statements are %v", kinds)
		}
	}
}
