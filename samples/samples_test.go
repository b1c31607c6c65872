package samples_test

import (
	"math/rand"
	"testing"

	"synchrony/accept"
	"synchrony/api"
	"synchrony/asm"
	"synchrony/expr"
	"synchrony/modes"
	"synchrony/norm"
	"synchrony/obj"
	"synchrony/parse"
	"synchrony/samples"
	"synchrony/value"
)

// TestPrograms checks what the tests of several layers depend on: the samples are right, and have all that there can be.
func TestPrograms(t *testing.T) {
	r := rand.New(rand.NewSource(1))
	kinds, clocks, types, resets := map[int]int{}, map[int]int{}, map[int]int{}, 0
	for range 300 {
		n := samples.Program(r.Intn)
		if e := norm.Check(n); e != api.OK {
			t.Fatalf("Check of %v returns %d", n, int(e))
		}
		for _, node := range n.Nodes {
			for _, d := range node.Locals {
				types[d.Type]++
			}
			for _, x := range node.Eqs {
				kinds[x.Kind]++
				clocks[len(x.Clock)]++
				if x.Every != "" {
					resets++
				}
			}
			for _, row := range samples.Rows(r.Intn, n.Enums, node.In, 3) {
				for i, d := range node.In {
					if len(row) != len(node.In) || !value.Has(n.Enums, d.Type, row[i]) {
						t.Fatalf("%v is no row for %v", row, node.In)
					}
				}
			}
		}
	}
	for _, kind := range []int{api.NDef, api.NDelay, api.NCall, api.NWord} {
		if kinds[kind] < 100 {
			t.Errorf("the kinds of equations are %v", kinds)
		}
	}
	if len(types) != 2+len(samples.Enums()) || clocks[0] < 100 || clocks[1] < 100 || clocks[2] < 100 || resets < 50 {
		t.Errorf("the types are %v, the lengths of clocks %v, the resets %d", types, clocks, resets)
	}
}

func TestTexts(t *testing.T) {
	for _, s := range samples.Texts() {
		p, at, e := parse.Program(s)
		if e != api.OK {
			t.Fatalf("%.60q.. is refused at %d with the error %d", s, at, int(e))
		}
		if _, e := norm.Program(p); e != api.OK {
			t.Errorf("%.60q.. has no normal form; the error is %d", s, int(e))
		}
	}
}

// TestSources does the same for programs with automata: without undefined cells they are accepted, and otherwise right up to the initialization.
func TestSources(t *testing.T) {
	r := rand.New(rand.NewSource(4))
	kinds, nests, errors, claims := map[int]int{}, map[int]int{}, map[api.Errno]int{}, 0
	for range 400 {
		p := samples.Source(r.Intn, 6, 0)
		if _, e := accept.Check(p); e != api.OK {
			t.Fatalf("Check of %v returns %d", p, int(e))
		}
		if modes.Count(p) > 6 {
			t.Errorf("there are %d automata", modes.Count(p))
		}
		nests[modes.Nest(p)]++
		for _, n := range p.Nodes {
			claims += len(n.Assume) + len(n.Ensure)
			for _, x := range n.Eqs {
				for part := range expr.Each(x.Right) {
					kinds[part.Kind]++
				}
			}
		}
		_, e := accept.Check(samples.Source(r.Intn, 6, 5))
		errors[e]++
	}
	for kind := api.EConst; kind <= api.EWord; kind++ {
		if kinds[kind] < 100 {
			t.Errorf("the kinds of expressions are %v", kinds)
		}
	}
	if nests[0] < 20 || nests[1] < 20 || nests[2] < 20 || nests[3] < 20 || claims < 300 {
		t.Errorf("the nestings of automata are %v, the claims %d", nests, claims)
	}
	if len(errors) != 2 || errors[api.OK] < 20 || errors[api.ErrInit] < 20 {
		t.Errorf("with undefined cells the errors are %v", errors)
	}
	if p := samples.Source(r.Intn, 0, 0); modes.Count(p) != 0 {
		t.Errorf("without automata there are %d", modes.Count(p))
	}
}

// TestObjects does the same for object code.
func TestObjects(t *testing.T) {
	r := rand.New(rand.NewSource(2))
	kinds, outputs, instances := map[[2]int]int{}, 0, 0
	count := func(e api.Expr) {
		for part := range expr.Each(e) {
			kinds[[2]int{part.Kind, part.Op}]++
		}
	}
	var statements func(l []api.Stmt)
	statements = func(l []api.Stmt) {
		for _, s := range l {
			kinds[[2]int{-s.Kind}]++
			count(s.Right)
			for _, a := range s.Args {
				count(a)
			}
			for _, branch := range s.Branches {
				statements(branch)
			}
		}
	}
	for range 300 {
		o := samples.Objects(r.Intn)
		if e := obj.Check(o); e != api.OK {
			t.Fatalf("Check of %v returns %d", o, int(e))
		}
		for _, c := range o.Classes {
			statements(c.Step)
			outputs, instances = outputs+len(c.Out), instances+len(c.Insts)
		}
	}
	for _, k := range []int{-api.SAssign, -api.SStore, -api.SCase, -api.SCall, -api.SReset, api.EConst, api.EVar, api.EState, api.EIf} {
		if kinds[[2]int{k}] < 100 {
			t.Errorf("there are %d of the kind %d", kinds[[2]int{k}], k)
		}
	}
	for op := api.OpNot; op <= api.OpGe; op++ {
		if kinds[[2]int{api.EOp, op}] < 10 {
			t.Errorf("the operator %d is there %d times", op, kinds[[2]int{api.EOp, op}])
		}
	}
	if outputs < 500 || instances < 200 {
		t.Errorf("there are %d outputs and %d instances", outputs, instances)
	}
}

// TestImages does the same for images.
func TestImages(t *testing.T) {
	r := rand.New(rand.NewSource(3))
	ops := map[int]int{}
	for range 500 {
		im := samples.Image(r.Intn, 10)
		if e := asm.Check(im); e != api.OK {
			t.Fatalf("Check of %v returns %d", im, int(e))
		}
		for _, x := range im.Routines {
			for _, i := range x.Code {
				ops[i.Op]++
			}
		}
	}
	for op := api.ILoad; op <= api.IReset; op++ {
		if ops[op] < 100 {
			t.Errorf("the operations are %v", ops)
		}
	}
}
