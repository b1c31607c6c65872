package samples_test

import (
	"math/rand"
	"testing"

	"synchrony/api"
	"synchrony/norm"
	"synchrony/parse"
	"synchrony/samples"
	"synchrony/value"
)

// TestPrograms checks what the tests of several layers depend on: the samples are right, and have all that there can be.
func TestPrograms(t *testing.T) {
	r := rand.New(rand.NewSource(1))
	kinds, clocks, types, resets := map[int]int{}, map[int]int{}, map[int]int{}, 0
	for range 300 {
		n := samples.Program(r.Intn)
		if e := norm.Check(n); e != api.OK {
			t.Fatalf("Check of %v returns %d", n, int(e))
		}
		for _, node := range n.Nodes {
			for _, d := range node.Locals {
				types[d.Type]++
			}
			for _, x := range node.Eqs {
				kinds[x.Kind]++
				clocks[len(x.Clock)]++
				if x.Every != "" {
					resets++
				}
			}
			for _, row := range samples.Rows(r.Intn, n.Enums, node.In, 3) {
				for i, d := range node.In {
					if len(row) != len(node.In) || !value.Has(n.Enums, d.Type, row[i]) {
						t.Fatalf("%v is no row for %v", row, node.In)
					}
				}
			}
		}
	}
	for _, kind := range []int{api.NDef, api.NDelay, api.NCall, api.NWord} {
		if kinds[kind] < 100 {
			t.Errorf("the kinds of equations are %v", kinds)
		}
	}
	if len(types) != 2+len(samples.Enums()) || clocks[0] < 100 || clocks[1] < 100 || clocks[2] < 100 || resets < 50 {
		t.Errorf("the types are %v, the lengths of clocks %v, the resets %d", types, clocks, resets)
	}
}

func TestTexts(t *testing.T) {
	for _, s := range samples.Texts() {
		p, at, e := parse.Program(s)
		if e != api.OK {
			t.Fatalf("%.60q.. is refused at %d with the error %d", s, at, int(e))
		}
		if _, e := norm.Program(p); e != api.OK {
			t.Errorf("%.60q.. has no normal form; the error is %d", s, int(e))
		}
	}
}
