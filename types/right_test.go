package types

import (
	"math/rand"
	"slices"
	"strconv"
	"testing"

	"synchrony/api"
	"synchrony/shape"
)

// rightPrograms calls f with programs whose types are right; they are the same in each run.
func rightPrograms(t *testing.T, n int, f func(r *rand.Rand, p api.Program)) {
	t.Helper()
	r := rand.New(rand.NewSource(11))
	for range n {
		p := someProgram(r)
		if w, e := Check(p); w != (api.Where{}) || e != api.OK {
			t.Fatalf("Check = %v, %d of %+v", w, int(e), p)
		}
		f(r, p)
		if t.Failed() {
			t.Fatalf("%+v", p)
		}
	}
}

// TestRightSides is P11.1.
func TestRightSides(t *testing.T) {
	kinds := map[int]int{}
	rightPrograms(t, 1000, func(r *rand.Rand, p api.Program) {
		for i, n := range p.Nodes {
			for _, x := range n.Eqs {
				var want []int
				for _, name := range x.Left {
					for _, d := range slices.Concat(n.In, n.Out, n.Locals) {
						if d.Name == name {
							want = append(want, d.Type)
						}
					}
				}
				expectOf(t, "a right side", p, i, x.Right, want, api.OK)
				for _, e := range partsOf[api.Expr](&x.Right) {
					kinds[e.Kind]++
				}
			}
			for _, e := range slices.Concat(n.Assume, n.Ensure) {
				expectOf(t, "a claim", p, i, e, []int{api.TBool}, api.OK)
			}
		}
	})
	for kind := api.EConst; kind <= api.EWord; kind++ {
		if kinds[kind] < 200 {
			t.Errorf("only %d expressions of the kind %d", kinds[kind], kind)
		}
	}
}

// TestSubexpressions is P11.2, for right and for wrong expressions of all parts of a program.
func TestSubexpressions(t *testing.T) {
	right := 0
	rightPrograms(t, 300, func(r *rand.Rand, p api.Program) {
		q := deepCopy(p)
		for range 5 {
			spoil(r, &q)
		}
		node := r.Intn(len(p.Nodes))
		for _, e := range partsOf[api.Expr](&q) {
			if _, err := Of(p, node, *e); err != api.OK {
				continue
			}
			for _, a := range e.Args {
				right++
				if l, err := Of(p, node, a); len(l) != 1 || err != api.OK {
					t.Errorf("Of an argument = %v, %d", l, int(err))
				}
			}
		}
	})
	if right < 5000 {
		t.Errorf("only %d arguments", right)
	}
}

// TestConstants is P11.3.
func TestConstants(t *testing.T) {
	rightPrograms(t, 300, func(r *rand.Rand, p api.Program) {
		for i, n := range p.Nodes {
			for _, x := range n.Eqs {
				want, _ := Of(p, i, x.Right)
				e := deepCopy(x.Right)
				parts := partsOf[api.Expr](&e)
				part := parts[r.Intn(len(parts))]
				l, err := Of(p, i, *part)
				if len(l) != 1 || err != api.OK {
					if part != &e {
						t.Errorf("Of a part = %v, %d", l, int(err))
					}
					continue
				}
				*part = constant(l[0], 0)
				expectOf(t, "with a constant", p, i, e, want, api.OK)
			}
		}
	})
}

// TestMoreVariables is P11.4: also the errors of wrong expressions stay.
func TestMoreVariables(t *testing.T) {
	errors := map[api.Errno]int{}
	rightPrograms(t, 300, func(r *rand.Rand, p api.Program) {
		q := deepCopy(p)
		spoil(r, &q)
		node := r.Intn(len(p.Nodes))
		more := deepCopy(p)
		n := &more.Nodes[node]
		for i := range 3 {
			n.Locals = append(n.Locals, api.Decl{Name: "w" + strconv.Itoa(i), Type: 1 + r.Intn(5)})
		}
		i := r.Intn(len(n.Locals))
		n.Locals[0], n.Locals[i] = n.Locals[i], n.Locals[0]
		more.Nodes = append(more.Nodes, api.Node{Name: "v0"}, deepCopy(p.Nodes[0]), api.Node{Name: "f3", Out: decls(api.TInt, "x")})
		for _, e := range partsOf[api.Expr](&q) {
			want, err := Of(p, node, *e)
			errors[err]++
			expectOf(t, "with more", more, node, *e, want, err)
		}
	})
	for _, e := range []api.Errno{api.OK, api.ErrName, api.ErrType} {
		if errors[e] < 300 {
			t.Errorf("only %d expressions with the error %d", errors[e], int(e))
		}
	}
}

// spoil makes a change somewhere in a program, which leaves its shape and its names right in most cases.
func spoil(r *rand.Rand, p *api.Program) {
	decls, exprs := partsOf[api.Decl](p), partsOf[api.Expr](p)
	switch k := r.Intn(6); {
	case k == 0 || len(exprs) == 0:
		decls[r.Intn(len(decls))].Type = 1 + r.Intn(2+len(p.Enums))
	case k == 1:
		for _, x := range partsOf[api.Eq](p) {
			r.Shuffle(len(x.Left), func(i, j int) { x.Left[i], x.Left[j] = x.Left[j], x.Left[i] })
		}
	case k == 2:
		*exprs[r.Intn(len(exprs))] = constant(1+r.Intn(2+len(p.Enums)), 0)
	case k == 3:
		*exprs[r.Intn(len(exprs))] = deepCopy(*exprs[r.Intn(len(exprs))])
	default:
		spoilExpr(r, p, exprs[r.Intn(len(exprs))])
	}
}

// spoilExpr changes what the kind of e has.
func spoilExpr(r *rand.Rand, p *api.Program, e *api.Expr) {
	switch e.Kind {
	case api.EOp:
		e.Op = []int{api.OpNot + r.Intn(2), api.OpAnd + r.Intn(14)}[len(e.Args)-1]
	case api.EVar, api.EWhen, api.EMerge:
		l := partsOf[api.Decl](p)
		e.Name = l[r.Intn(len(l))].Name
	case api.ECall:
		if r.Intn(2) == 0 {
			e.Name = p.Nodes[r.Intn(len(p.Nodes))].Name
			break
		}
		fallthrough
	default:
		r.Shuffle(len(e.Args), func(i, j int) { e.Args[i], e.Args[j] = e.Args[j], e.Args[i] })
	}
}

// TestCheckSpoilt compares Check of right programs with some changes with a reference.
func TestCheckSpoilt(t *testing.T) {
	r := rand.New(rand.NewSource(12))
	seen, errors := map[report]int{}, map[api.Errno]int{}
	for range 1500 {
		p := someProgram(r)
		for range r.Intn(3) {
			spoil(r, &p)
		}
		want := append(reports(p), report{})[0]
		expectCheck(t, "a spoilt program", p, want.where, want.e)
		if t.Failed() {
			t.Fatalf("%+v", p)
		}
		seen[want]++
		errors[want.e]++
	}
	if errors[api.OK] < 300 || errors[api.ErrType] < 300 {
		t.Errorf("%d right programs and %d with wrong types", errors[api.OK], errors[api.ErrType])
	}
	if len(seen) < 30 {
		t.Errorf("only %d errors at different places", len(seen))
	}
}

// TestOfSpoilt compares Of with a reference, for expressions of all places of a program that is not checked, in any of its nodes.
func TestOfSpoilt(t *testing.T) {
	r := rand.New(rand.NewSource(13))
	errors := map[api.Errno]int{}
	for range 400 {
		p := someProgram(r)
		for range r.Intn(6) {
			spoil(r, &p)
		}
		for _, e := range partsOf[api.Expr](&p) {
			if k := r.Intn(6); e.Kind == api.ECall && k == 0 {
				e.Args = append(e.Args, constant(api.TBool, 0))
			} else if e.Kind == api.ECall && k == 1 && len(e.Args) > e.V {
				e.Args = e.Args[1:]
			}
		}
		n := &p.Nodes[r.Intn(len(p.Nodes))]
		switch r.Intn(4) {
		case 0:
			n.Name = p.Nodes[r.Intn(len(p.Nodes))].Name
		case 1:
			n.Out = n.Out[:r.Intn(len(n.Out))]
		case 2:
			n.Locals = append(n.Locals, api.Decl{Name: "v" + strconv.Itoa(r.Intn(5)), Type: r.Intn(8) - 1})
		}
		before := deepCopy(p)
		for _, e := range partsOf[api.Expr](&p) {
			node := r.Intn(len(p.Nodes))
			types, want := ofReference(p, node, *e)
			if want != api.OK {
				types = nil
			}
			expectOf(t, "some expression", p, node, *e, types, want)
			errors[want]++
		}
		if t.Failed() || !shape.Same(p, before) {
			t.Fatalf("%+v became %+v", before, p)
		}
	}
	for _, e := range []api.Errno{api.OK, api.ErrName, api.ErrArity, api.ErrType} {
		if errors[e] < 200 {
			t.Errorf("only %d expressions with the error %d", errors[e], int(e))
		}
	}
}
