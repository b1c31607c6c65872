package asm

import (
	"math/rand"
	"slices"
	"testing"

	"synchrony/api"
	"synchrony/clone"
)

// TestRegisters is P26.2: what each instruction reads and writes.
func TestRegisters(t *testing.T) {
	im := all() // routine 0 has two inputs and an output, routine 2 the same, routine 1 none
	for _, x := range []struct {
		i    api.Instr
		uses []int
		sets []int
	}{
		{instr(api.ILoad, 4, 3), nil, []int{4}},
		{instr(api.IMove, 4, 3), []int{3}, []int{4}},
		{instr(api.IMove, 4, 4), []int{4}, []int{4}},
		{instr(api.IRead, 4, 3), nil, []int{4}},
		{instr(api.IWrite, 4, 3), []int{3}, nil},
		{instr(api.IUnary, 4, 3, api.OpNot), []int{3}, []int{4}},
		{instr(api.IApply, 4, 3, 2, api.OpAnd), []int{2, 3}, []int{4}},
		{instr(api.IApply, 4, 2, 3, api.OpAnd), []int{2, 3}, []int{4}},
		{instr(api.IApply, 4, 3, 3, api.OpAnd), []int{3}, []int{4}},
		{instr(api.IJump, 0, 3), nil, nil},
		{instr(api.IZero, 4, 3), []int{4}, nil},
		{instr(api.ICall, 0, 1, 4, 2), []int{4, 5}, []int{2}},
		{instr(api.ICall, 2, 7, 5, 8), []int{5, 6}, []int{8}},
		{instr(api.ICall, 1, 1, 4, 2), nil, nil},
		{instr(api.ICall, 3, 1, 4, 2), nil, nil},
		{instr(api.ICall, -1, 1, 4, 2), nil, nil},
		{instr(api.ICall, 1<<63-1, 1, 4, 2), nil, nil},
		{instr(api.ICall, -1<<63, 1, 4, 2), nil, nil},
		{instr(api.IReset, 0, 1), nil, nil},
		{instr(0, 4, 3, 2, 1), nil, nil},
		{instr(11, 4, 3, 2, 1), nil, nil},
		{instr(-1, 4, 3, 2, 1), nil, nil},
		{instr(api.IApply, -4, -2, -3, 99), []int{-3, -2}, []int{-4}},
	} {
		before := clone.Image(im)
		uses, sets := Uses(im, x.i), Sets(im, x.i)
		if !slices.Equal(uses, x.uses) || !slices.Equal(sets, x.sets) {
			t.Errorf("%v: it uses %v, want %v; it sets %v, want %v", x.i, uses, x.uses, sets, x.sets)
		}
		if !Same(im, before) {
			t.Errorf("%v: the image has changed", x.i)
		}
		expectNewMemory(t, im, [][]int{uses, sets})
	}
	if l := Uses(api.Image{}, instr(api.ICall)); len(l) > 0 {
		t.Errorf("a call of nothing uses %v", l)
	}
	if l := Sets(api.Image{}, instr(api.ICall)); len(l) > 0 {
		t.Errorf("a call of nothing sets %v", l)
	}
}

// TestRegistersRight is P26.7: what an instruction of an accepted image uses and sets are registers of its routine, each once and in order.
func TestRegistersRight(t *testing.T) {
	r := rand.New(rand.NewSource(2))
	for range 3000 {
		im := someImage(r)
		for _, x := range im.Routines {
			for _, i := range x.Code {
				for _, l := range [][]int{Uses(im, i), Sets(im, i)} {
					for k, register := range l {
						if register < 0 || register >= x.Regs || k > 0 && register <= l[k-1] {
							t.Fatalf("%v has the registers %v", i, l)
						}
					}
				}
			}
		}
	}
}

// TestRegistersAny is rule 1 for Uses and Sets: any instruction, in any image.
func TestRegistersAny(t *testing.T) {
	r := rand.New(rand.NewSource(3))
	number := func() int { return pick(r, append(numbers(), 0, 1, 2, 3)...) }
	for range 20000 {
		im := spoiled(r, someImage(r))
		i := instr(pick(r, number(), r.Intn(12)), number(), number(), number(), number())
		if a, b := len(Uses(im, i)), len(Sets(im, i)); a > 4 || b > 4 {
			t.Fatalf("%v uses %d registers and sets %d", i, a, b)
		}
	}
}
