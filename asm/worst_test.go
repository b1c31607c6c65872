package asm

import (
	"math/rand"
	"testing"

	"synchrony/api"
	"synchrony/clone"
)

func expectWorst(t *testing.T, what string, im api.Image, want int) {
	t.Helper()
	before := clone.Image(im)
	if n, e := Worst(im); n != want || e != api.OK {
		t.Errorf("%s: at most %d instructions, want %d; the error is %d", what, n, want, int(e))
	}
	if !Same(im, before) {
		t.Errorf("%s: the argument has changed", what)
	}
}

// code is an image of one routine.
func code(l ...api.Instr) api.Image {
	return api.Image{Routines: []api.Routine{{Name: "f", Regs: 2, Init: zeros(2), Code: l}}}
}

// TestWorst is P26.3.
func TestWorst(t *testing.T) {
	load, zero, jump := instr(api.ILoad, 1, 5), func(to int) api.Instr { return instr(api.IZero, 0, to) }, func(to int) api.Instr { return instr(api.IJump, 0, to) }
	expectWorst(t, "the example", code(zero(2), load, load), 3)
	expectWorst(t, "no code", code(), 0)
	expectWorst(t, "one of each kind", code(load, instr(api.IMove), instr(api.IRead), instr(api.IWrite), instr(api.IUnary, 0, 0, 1), instr(api.IApply, 0, 0, 0, 3), zero(7), jump(8)), 8)
	expectWorst(t, "a jump over code", code(jump(3), load, load, load), 2)
	expectWorst(t, "a jump to the end", code(jump(3), load, load), 1)
	expectWorst(t, "a zero that continues after it", code(zero(4), load, load, load), 4)
	expectWorst(t, "branches of a zero", code(zero(3), load, jump(6), load, load, load, load), 5)
	expectWorst(t, "branches of a zero, the first one longer", code(zero(5), load, load, load, jump(6), load, load), 6)
	expectWorst(t, "a longer way by a jump", code(zero(2), jump(5), load, load, load), 4)
	expectWorst(t, "everything", all(), 3+1+1+1+1+4+1+1) // 0 1 2 4 and the four of routine 0, then 5 to 9
	im := all()
	im.Routines = im.Routines[:2]
	expectWorst(t, "the last routine is empty", im, 0)
	for _, x := range []struct {
		im api.Image
		e  api.Errno
	}{
		{api.Image{}, api.ErrForm},
		{api.Image{Enums: []int{0}}, api.ErrRange},
		{code(jump(0)), api.ErrForm},
		{code(instr(api.ICall)), api.ErrRange},
		{api.Image{Enums: zeros(25)}, api.ErrLimit},
	} {
		if n, e := Worst(x.im); n != 0 || e != x.e {
			t.Errorf("%v: Worst returns %d and %d, want the error %d", x.im, n, int(e), int(x.e))
		}
	}
}

// TestWorstAny is P26.3: the greatest number of all ways.
func TestWorstAny(t *testing.T) {
	r := rand.New(rand.NewSource(4))
	sizes := map[int]int{}
	for range 5000 {
		im := someImage(r)
		want := refWorst(im, len(im.Routines)-1, 0)
		sizes[want]++
		expectWorst(t, "an image", im, want)
		if t.Failed() {
			t.Fatal(im)
		}
	}
	if len(sizes) < 15 {
		t.Errorf("the numbers are %v", sizes)
	}
}

// chain is an image whose routine k executes 2^(k+1) - 2 instructions, followed by a routine with the code.
func chain(count int, l ...api.Instr) api.Image {
	var im api.Image
	for k := range count {
		f := api.Routine{Name: "f", Regs: 2}
		if k > 0 {
			f.Code = []api.Instr{instr(api.ICall, k-1), instr(api.ICall, k-1)}
		}
		im.Routines = append(im.Routines, f)
	}
	im.Routines = append(im.Routines, api.Routine{Name: "last", Regs: 2, Code: l})
	return im
}

// TestWorstLimit is P26.3: numbers up to 2^40, of what the last routine executes.
func TestWorstLimit(t *testing.T) {
	load := instr(api.ILoad, 0, 1)
	expectWorst(t, "a call", chain(40, instr(api.ICall, 39)), 1<<40-1)
	expectWorst(t, "a call and an instruction", chain(40, load, instr(api.ICall, 39)), 1<<40)
	expectWorst(t, "a call that is jumped over", chain(95, load, instr(api.IJump, 0, 3), instr(api.ICall, 94), load), 3)
	expectWorst(t, "routines that are not called", chain(95, load), 1)
	expectWorst(t, "two branches that are both within the limit", chain(40, instr(api.IZero, 0, 3), instr(api.ICall, 38), instr(api.IJump, 0, 4), instr(api.ICall, 39)), 1<<40)
	for i, l := range [][]api.Instr{
		{load, load, instr(api.ICall, 39)},
		{instr(api.ICall, 39), load, load},
		{instr(api.ICall, 40)},
		{instr(api.ICall, 94)},
		{instr(api.ICall, 94), instr(api.ICall, 94)},
		{instr(api.IZero, 0, 2), instr(api.ICall, 94), load},
		{instr(api.IZero, 0, 2), instr(api.IJump, 0, 3), instr(api.ICall, 94)},
	} {
		if n, e := Worst(chain(95, l...)); n != 0 || e != api.ErrLimit {
			t.Errorf("%d: Worst returns %d and %d", i, n, int(e))
		}
	}
}

// TestWorstLarge is P26.3 for code with very many ways.
func TestWorstLarge(t *testing.T) {
	l := make([]api.Instr, api.MaxCode)
	for at := range l {
		l[at] = instr(api.IZero, 0, min(at+1+at%3, len(l)))
	}
	expectWorst(t, "branches", code(l...), api.MaxCode)
}
