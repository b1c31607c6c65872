package clocks

import (
	"math/rand"
	"reflect"
	"slices"
	"testing"

	"synchrony/api"
	"synchrony/expr"
	"synchrony/shape"
)

// rightPrograms calls f with programs whose clocks are right; they are the same in each run.
func rightPrograms(t *testing.T, n int, f func(r *rand.Rand, p api.Program)) {
	t.Helper()
	r := rand.New(rand.NewSource(12))
	for range n {
		p := someProgram(r)
		if w, e := Check(p); w != (api.Where{}) || e != api.OK {
			t.Fatalf("Check = %v, %d of %+v", w, int(e), p)
		}
		f(r, p)
		if t.Failed() {
			t.Fatalf("%+v", p)
		}
	}
}

// TestRightSides is P12.4 for right sides.
func TestRightSides(t *testing.T) {
	kinds, lengths := map[int]int{}, map[int]int{}
	rightPrograms(t, 800, func(r *rand.Rand, p api.Program) {
		for i, n := range p.Nodes {
			for _, x := range n.Eqs {
				for _, name := range x.Left {
					ck, err := Of(p, i, name)
					if err != api.OK {
						t.Errorf("Of %s: error %d", name, int(err))
					}
					expectFits(t, "the right side of "+name, p, i, x.Right, ck, api.OK)
					lengths[len(ck)]++
				}
				for e := range expr.Each(x.Right) {
					kinds[e.Kind]++
				}
			}
			for _, e := range slices.Concat(n.Assume, n.Ensure) {
				expectFits(t, "a claim", p, i, e, nil, api.OK)
			}
		}
	})
	for kind := api.EConst; kind <= api.EWord; kind++ {
		if kinds[kind] < 200 {
			t.Errorf("only %d expressions of the kind %d", kinds[kind], kind)
		}
	}
	for n := range api.MaxClock + 1 {
		if lengths[n] < 100 {
			t.Errorf("only %d clocks of the length %d", lengths[n], n)
		}
	}
}

// TestRightDeclarations is P12.4 for declared clocks.
func TestRightDeclarations(t *testing.T) {
	rightPrograms(t, 500, func(r *rand.Rand, p api.Program) {
		for i, n := range p.Nodes {
			for _, d := range slices.Concat(n.In, n.Out, n.Locals) {
				expectOf(t, "a variable", p, i, d.Name, d.Clock, api.OK)
				for k, x := range d.Clock {
					expectOf(t, "a clock variable", p, i, x.Name, d.Clock[:k], api.OK)
					if !Within(d.Clock, d.Clock[:k]) || Within(d.Clock[:k], d.Clock) {
						t.Errorf("Within of %v and the first %d", d.Clock, k)
					}
				}
			}
		}
	})
}

// TestEveryClock is P12.4 for expressions without variables, samplings and merges.
func TestEveryClock(t *testing.T) {
	fitting := 0
	rightPrograms(t, 500, func(r *rand.Rand, p api.Program) {
		for _, e := range partsOf[api.Expr](&p) {
			if len(expr.Names(*e)) > 0 {
				continue
			}
			fitting++
			ck := make([]api.On, r.Intn(api.MaxClock+1))
			for i := range ck {
				ck[i] = api.On{Name: []string{"v0", "v1", "none"}[r.Intn(3)], T: r.Intn(5), Tag: r.Intn(3)}
			}
			expectFits(t, "no variables", p, r.Intn(len(p.Nodes)), *e, ck, api.OK)
		}
	})
	if fitting < 2000 {
		t.Errorf("only %d expressions", fitting)
	}
}

// spoil makes a change in a node, which leaves the types right in most cases.
func spoil(r *rand.Rand, n *api.Node) {
	decls := slices.Concat(n.In, n.Out, n.Locals)
	exprs := partsOf[api.Expr](n)
	e := exprs[r.Intn(len(exprs))]
	d := decls[r.Intn(len(decls))]
	switch k := r.Intn(7); {
	case k == 0 && len(n.Locals) > 0:
		spoilClock(r, &n.Locals[r.Intn(len(n.Locals))], decls)
	case k == 1:
		*e = when(api.On{Name: d.Name, T: api.TBool, Tag: r.Intn(2)}, deepCopy(*e))
	case k == 2:
		*e = deepCopy(*exprs[r.Intn(len(exprs))])
	case k == 3:
		x := &n.Eqs[r.Intn(len(n.Eqs))]
		if i := slices.IndexFunc(decls, func(d api.Decl) bool { return d.Name == x.Left[0] }); len(x.Left) == 1 && i >= 0 && decls[i].Type == api.TBool {
			x.Right = merge(x.Left[0], api.TBool, deepCopy(x.Right), constant(api.TBool, 1))
		}
	default:
		spoilExpr(r, e, decls)
	}
}

// spoilClock changes the clock of a declaration.
func spoilClock(r *rand.Rand, d *api.Decl, decls []api.Decl) {
	other := decls[r.Intn(len(decls))]
	n := len(d.Clock)
	switch k := r.Intn(4); {
	case k == 0:
		d.Clock = slices.Clone(other.Clock)
	case k == 1 && n > 0:
		d.Clock = d.Clock[:n-1]
	case k == 2 && n > 0:
		x := &d.Clock[r.Intn(n)]
		*x = api.On{Name: x.Name, T: api.TBool, Tag: 1 - min(x.Tag, 1)}
	case other.Type != api.TInt:
		d.Clock = append(d.Clock, api.On{Name: other.Name, T: other.Type})
	}
}

// spoilExpr changes a variable, a tag, or the order of arguments, or takes a sampling away.
func spoilExpr(r *rand.Rand, e *api.Expr, decls []api.Decl) {
	k := r.Intn(3)
	switch {
	case e.Kind == api.EWhen && k == 0:
		*e = e.Args[0]
	case e.Kind == api.EWhen && k == 1 && e.T == api.TBool:
		e.V = 1 - e.V
	case e.Kind == api.EMerge && k == 0:
		e.Args[0], e.Args[len(e.Args)-1] = e.Args[len(e.Args)-1], e.Args[0]
	case e.Kind == api.EVar, e.Kind == api.EWhen, e.Kind == api.EMerge:
		i := slices.IndexFunc(decls, func(d api.Decl) bool { return d.Name == e.Name })
		j := r.Intn(len(decls))
		if i >= 0 && decls[i].Type == decls[j].Type {
			e.Name = decls[j].Name
		}
	case len(e.Args) > 0:
		a := &e.Args[r.Intn(len(e.Args))]
		spoilExpr(r, a, decls)
	}
}

// TestCheckSpoilt compares Check of right programs with some changes with a reference.
func TestCheckSpoilt(t *testing.T) {
	r := rand.New(rand.NewSource(14))
	seen, errors := map[report]int{}, map[int]int{}
	for range 3000 {
		p := someProgram(r)
		for range r.Intn(3) {
			spoil(r, &p.Nodes[r.Intn(len(p.Nodes))])
		}
		if r.Intn(50) == 0 {
			p.Nodes[r.Intn(len(p.Nodes))].Autos = []api.Auto{{}}
		}
		want := append(reports(p), report{})[0]
		before := deepCopy(p)
		expectCheck(t, "a spoilt program", p, want.where, want.e)
		if t.Failed() || !reflect.DeepEqual(p, before) {
			t.Fatalf("%+v", before)
		}
		seen[want]++
		errors[int(want.e)]++
	}
	for e, least := range map[api.Errno]int{api.OK: 800, api.ErrArg: 20, api.ErrLimit: 10, api.ErrClock: 400} {
		if errors[int(e)] < least {
			t.Errorf("only %d programs with the error %d", errors[int(e)], int(e))
		}
	}
	if len(seen) < 40 {
		t.Errorf("only %d errors at different places", len(seen))
	}
}

// someClock returns the clock of a variable, with a change in some cases.
func someClock(r *rand.Rand, decls []api.Decl) []api.On {
	d := deepCopy(decls[r.Intn(len(decls))])
	if r.Intn(4) == 0 {
		spoilClock(r, &d, decls)
	}
	return d.Clock
}

// TestFitsSpoilt compares Fits and Of with a reference, for expressions of all places of a program that is not checked, in any of its nodes.
func TestFitsSpoilt(t *testing.T) {
	r := rand.New(rand.NewSource(15))
	errors := map[int]int{}
	for range 600 {
		p := someProgram(r)
		n := &p.Nodes[r.Intn(len(p.Nodes))]
		for range r.Intn(6) {
			spoil(r, n)
		}
		if r.Intn(3) == 0 { // names that occur twice, and inputs with clocks
			l := partsOf[api.Decl](n)
			*l[r.Intn(len(l))] = deepCopy(*l[r.Intn(len(l))])
		}
		for _, e := range partsOf[api.Expr](&p) {
			i := r.Intn(len(p.Nodes))
			decls := slices.Concat(p.Nodes[i].In, p.Nodes[i].Out, p.Nodes[i].Locals)
			ck := someClock(r, decls)
			want := fitsReference(p, i, *e, ck)
			expectFits(t, "some expression", p, i, *e, ck, want)
			errors[int(want)]++
			d, ok := found{p.Nodes[i]}.decl(e.Name)
			err := api.OK
			if !ok {
				err = api.ErrName
			}
			expectOf(t, "some variable", p, i, e.Name, d.Clock, err)
		}
		if t.Failed() {
			t.Fatalf("%+v", p)
		}
	}
	for _, e := range []api.Errno{api.OK, api.ErrName, api.ErrLimit, api.ErrClock} {
		if errors[int(e)] < 100 {
			t.Errorf("only %d expressions with the error %d", errors[int(e)], int(e))
		}
	}
}

// fitsReference is Fits.
func fitsReference(p api.Program, node int, e api.Expr, ck []api.On) api.Errno {
	if err := shape.Expr(p.Enums, e); err != api.OK {
		return err
	}
	f := found{p.Nodes[node]}
	for x := range expr.Each(e) {
		if _, ok := f.decl(x.Name); !ok && (x.Kind == api.EVar || x.Kind == api.EWhen || x.Kind == api.EMerge) {
			return api.ErrName
		}
	}
	if len(ck) > api.MaxClock {
		return api.ErrLimit
	}
	return f.fits(e, ck)
}
