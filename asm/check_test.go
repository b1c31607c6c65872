package asm

import (
	"math/rand"
	"strings"
	"testing"

	"synchrony/api"
	"synchrony/clone"
)

func expectCheck(t *testing.T, what string, im api.Image, want api.Errno) {
	t.Helper()
	before := clone.Image(im)
	if e := Check(im); e != want {
		t.Errorf("%s: Check returns %d, want %d", what, int(e), int(want))
	}
	if e := refCheck(im); e != want {
		t.Errorf("%s: the reference returns %d, want %d", what, int(e), int(want))
	}
	if !Same(im, before) {
		t.Errorf("%s: the argument has changed", what)
	}
}

// zeros is a list of zeros.
func zeros(n int) []int { return make([]int, n) }

// TestCheckImage is P26.1, its first part: the limits and their order.
func TestCheckImage(t *testing.T) {
	expectCheck(t, "everything", all(), api.OK)
	expectCheck(t, "nothing", api.Image{}, api.ErrForm)
	expectCheck(t, "one routine", api.Image{Routines: []api.Routine{{Name: "f"}}}, api.OK)
	for _, x := range []struct {
		enums    int
		tags     int
		routines int
		want     api.Errno
	}{
		{24, 16, 96, api.OK},
		{24, 1, 1, api.OK},
		{25, 1, 1, api.ErrLimit},
		{1, 1, 97, api.ErrLimit},
		{25, 0, 97, api.ErrLimit},
		{1, 17, 97, api.ErrLimit},
		{25, 0, 0, api.ErrLimit},
		{24, 17, 0, api.ErrRange},
		{24, 0, 1, api.ErrRange},
		{1, -1, 1, api.ErrRange},
		{1, 16, 0, api.ErrForm},
		{0, 0, 0, api.ErrForm},
	} {
		im := api.Image{Enums: zeros(x.enums), Routines: make([]api.Routine, x.routines)}
		for k := range im.Routines {
			im.Routines[k].Name = "f"
		}
		for k := range im.Enums {
			im.Enums[k] = 3
		}
		if x.enums > 0 {
			im.Enums[x.enums-1] = x.tags
		}
		expectCheck(t, "a table", im, x.want)
		if x.want != api.OK && x.routines > 0 { // a wrong routine comes later
			im.Routines[0].Name = ""
			expectCheck(t, "a table with a wrong routine", im, x.want)
		}
	}
}

// TestCheckRoutine is P26.1, its second part: the errors of a routine, each one alone and before those that come later.
func TestCheckRoutine(t *testing.T) {
	wrong := []struct {
		e      api.Errno
		change func(x *api.Routine)
	}{
		{api.ErrName, func(x *api.Routine) { x.Name = "" }},
		{api.ErrLimit, func(x *api.Routine) { x.Regs = api.MaxCode + 1 }},
		{api.ErrType, func(x *api.Routine) { x.In = append(x.In, api.TEnum+3) }},
		{api.ErrArity, func(x *api.Routine) { x.Regs = min(x.Regs, len(x.In)+len(x.Out)-1) }},
		{api.ErrRange, func(x *api.Routine) { x.Init = append(x.Init, api.MaxInt+1) }},
		{api.ErrForm, func(x *api.Routine) { x.Code = append(x.Code, instr(0), instr(api.IMove, -1)) }},
	}
	for i, x := range wrong {
		im := all()
		x.change(&im.Routines[1])
		expectCheck(t, "an error", im, x.e)
		im.Routines[2].Name = ""
		expectCheck(t, "an error before another routine", im, x.e)
		for _, y := range wrong[i+1:] {
			im := all()
			y.change(&im.Routines[1])
			x.change(&im.Routines[1])
			expectCheck(t, "two errors", im, x.e)
		}
	}
	im := all()
	im.Routines[1].Name, im.Routines[2].Name = "one", "one"
	expectCheck(t, "equal names", im, api.OK)
}

// TestCheckNames is P26.1: names of routines.
func TestCheckNames(t *testing.T) {
	long := strings.Repeat("aZ_9", 10)
	for name, want := range map[string]api.Errno{
		"a": api.OK, "_": api.OK, "9": api.OK, "end": api.OK, "az_AZ_09": api.OK, long: api.OK, long + "a": api.ErrName, "": api.ErrName, " ": api.ErrName,
		"a b": api.ErrName, "a\n": api.ErrName, "a-": api.ErrName, "`": api.ErrName, "{": api.ErrName, "@": api.ErrName, "[": api.ErrName, "/": api.ErrName, ":": api.ErrName, "\u00e4": api.ErrName, "\xff": api.ErrName, "a\x00": api.ErrName,
	} {
		expectCheck(t, name, api.Image{Routines: []api.Routine{{Name: name}}}, want)
	}
}

// TestCheckLimits is P26.1: the limits of a routine.
func TestCheckLimits(t *testing.T) {
	ints := func(n int) []int {
		l := zeros(n)
		for k := range l {
			l[k] = api.TInt
		}
		return l
	}
	for _, x := range []struct {
		in, out, memory, code, regs int
		want                        api.Errno
	}{
		{64, 64, 16384, 32768, 32768, api.OK},
		{64, 64, 0, 0, 128, api.OK},
		{0, 0, 0, 0, 0, api.OK},
		{65, 0, 0, 0, 65, api.ErrLimit},
		{0, 65, 0, 0, 65, api.ErrLimit},
		{0, 0, 16385, 0, 0, api.ErrLimit},
		{0, 0, 0, 32769, 1, api.ErrLimit},
		{0, 0, 0, 0, 32769, api.ErrLimit},
		{64, 64, 0, 0, 127, api.ErrArity},
		{2, 0, 0, 0, 1, api.ErrArity},
		{0, 2, 0, 0, 1, api.ErrArity},
		{0, 0, 0, 0, -1, api.ErrArity},
		{0, 0, 0, 0, -1 << 63, api.ErrArity},
	} {
		f := api.Routine{Name: "f", In: ints(x.in), Out: ints(x.out), Init: zeros(x.memory), Code: make([]api.Instr, x.code), Regs: x.regs}
		for k := range f.Code {
			f.Code[k] = instr(api.IJump, 0, x.code)
		}
		im := api.Image{Routines: []api.Routine{f}}
		if e := Check(im); e != x.want {
			t.Errorf("%v: Check returns %d", x, int(e))
		}
	}
}

// TestCheckTypes is P26.1: types of ports, and initial values.
func TestCheckTypes(t *testing.T) {
	for typ, want := range map[int]api.Errno{
		api.TBool: api.OK, api.TInt: api.OK, api.TEnum: api.OK, api.TEnum + 1: api.OK, api.TEnum + 2: api.ErrType, 0: api.ErrType, -1: api.ErrType, 1<<63 - 1: api.ErrType, -1 << 63: api.ErrType,
	} {
		expectCheck(t, "an input", api.Image{Enums: []int{2, 2}, Routines: []api.Routine{{Name: "f", In: []int{1, typ}, Regs: 2}}}, want)
		expectCheck(t, "an output", api.Image{Enums: []int{2, 2}, Routines: []api.Routine{{Name: "f", Out: []int{typ, 1}, Regs: 2}}}, want)
	}
	for v, want := range map[int]api.Errno{api.MinInt: api.OK, api.MaxInt: api.OK, 0: api.OK, api.MinInt - 1: api.ErrRange, api.MaxInt + 1: api.ErrRange, 1 << 62: api.ErrRange} {
		expectCheck(t, "an initial value", api.Image{Routines: []api.Routine{{Name: "f", Init: []int{0, v}}}}, want)
	}
}

// inAll is the instruction as the third one of five in the last routine of all, which has 6 registers and 3 memories.
func inAll(i api.Instr) api.Image {
	im := all()
	move := instr(api.IMove, 0, 0)
	im.Routines[2].Code = []api.Instr{move, move, i, move, move}
	return im
}

// TestCheckInstructions is P26.1: the errors of instructions.
func TestCheckInstructions(t *testing.T) {
	const big = 1<<63 - 1
	for _, x := range []struct {
		i    api.Instr
		want api.Errno
	}{
		{instr(api.ILoad, 0, api.MinInt), api.OK}, {instr(api.ILoad, 5, api.MaxInt), api.OK},
		{instr(api.ILoad, 6, 0), api.ErrRange}, {instr(api.ILoad, -1, 0), api.ErrRange}, {instr(api.ILoad, 0, api.MaxInt+1), api.ErrRange}, {instr(api.ILoad, 0, api.MinInt-1), api.ErrRange},
		{instr(api.ILoad, 0, 0, 1), api.ErrForm}, {instr(api.ILoad, 6, 0, 0, 1), api.ErrForm},
		{instr(api.IMove, 5, 5), api.OK}, {instr(api.IMove, 6, 5), api.ErrRange}, {instr(api.IMove, 5, 6), api.ErrRange}, {instr(api.IMove, 0, -1), api.ErrRange}, {instr(api.IMove, 0, 0, -1), api.ErrForm}, {instr(api.IMove, 0, 0, 0, 1), api.ErrForm},
		{instr(api.IRead, 5, 2), api.OK}, {instr(api.IRead, 5, 3), api.ErrRange}, {instr(api.IRead, 6, 2), api.ErrRange}, {instr(api.IRead, 0, -1), api.ErrRange}, {instr(api.IRead, 0, 0, 1), api.ErrForm}, {instr(api.IRead, 0, 0, 0, 1), api.ErrForm},
		{instr(api.IWrite, 2, 5), api.OK}, {instr(api.IWrite, 3, 5), api.ErrRange}, {instr(api.IWrite, 2, 6), api.ErrRange}, {instr(api.IWrite, -1, 0), api.ErrRange}, {instr(api.IWrite, 0, -1), api.ErrRange}, {instr(api.IWrite, 0, 0, 1), api.ErrForm}, {instr(api.IWrite, 0, 0, 0, 1), api.ErrForm},
		{instr(api.IUnary, 5, 5, api.OpNot), api.OK}, {instr(api.IUnary, 0, 0, api.OpNeg), api.OK}, {instr(api.IUnary, 0, 0, 0), api.ErrForm}, {instr(api.IUnary, 0, 0, api.OpAnd), api.ErrForm}, {instr(api.IUnary, 9, 9, -1), api.ErrForm}, {instr(api.IUnary, 6, 0, 1), api.ErrRange}, {instr(api.IUnary, 0, 6, 1), api.ErrRange}, {instr(api.IUnary, 0, 0, 1, 1), api.ErrForm},
		{instr(api.IApply, 5, 5, 5, api.OpAnd), api.OK}, {instr(api.IApply, 0, 0, 0, api.OpGe), api.OK}, {instr(api.IApply, 0, 0, 0, api.OpNeg), api.ErrForm}, {instr(api.IApply, 0, 0, 0, api.OpGe+1), api.ErrForm}, {instr(api.IApply, 9, 9, 9, 0), api.ErrForm}, {instr(api.IApply, 6, 0, 0, 4), api.ErrRange}, {instr(api.IApply, 0, 6, 0, 4), api.ErrRange}, {instr(api.IApply, 0, 0, 6, 4), api.ErrRange}, {instr(api.IApply, 0, 0, -1, 4), api.ErrRange},
		{instr(api.IJump, 0, 3), api.OK}, {instr(api.IJump, 0, 5), api.OK}, {instr(api.IJump, 0, 2), api.ErrForm}, {instr(api.IJump, 0, 6), api.ErrForm}, {instr(api.IJump, 0, -1), api.ErrForm}, {instr(api.IJump, 1, 3), api.ErrForm}, {instr(api.IJump, 0, 3, 1), api.ErrForm}, {instr(api.IJump, 0, 3, 0, 1), api.ErrForm},
		{instr(api.IZero, 5, 5), api.OK}, {instr(api.IZero, 0, 3), api.OK}, {instr(api.IZero, 0, 2), api.ErrForm}, {instr(api.IZero, 0, 6), api.ErrForm}, {instr(api.IZero, 6, 3), api.ErrRange}, {instr(api.IZero, 6, 2), api.ErrForm}, {instr(api.IZero, 0, 3, 1), api.ErrForm}, {instr(api.IZero, 0, 3, 0, 1), api.ErrForm},
		{instr(api.ICall, 0, 1, 4, 5), api.OK}, {instr(api.ICall, 0, 0, 0, 0), api.OK}, {instr(api.ICall, 1, 3, 6, 6), api.OK}, {instr(api.ICall, 1, 0, 0, 0), api.OK},
		{instr(api.ICall, 2, 0, 0, 0), api.ErrRange}, {instr(api.ICall, 3, 0, 0, 0), api.ErrRange}, {instr(api.ICall, -1, 0, 0, 0), api.ErrRange}, {instr(api.ICall, 0, 2, 4, 5), api.ErrRange}, {instr(api.ICall, 0, -1, 4, 5), api.ErrRange}, {instr(api.ICall, 1, 4, 6, 6), api.ErrRange}, {instr(api.ICall, 1, -1, 6, 6), api.ErrRange},
		{instr(api.ICall, 0, 1, 5, 5), api.ErrRange}, {instr(api.ICall, 0, 1, -1, 5), api.ErrRange}, {instr(api.ICall, 0, 1, 4, 6), api.ErrRange}, {instr(api.ICall, 0, 1, 4, -1), api.ErrRange}, {instr(api.ICall, 1, 3, 7, 6), api.ErrRange}, {instr(api.ICall, 1, 3, 6, 7), api.ErrRange}, {instr(api.ICall, 1, 3, -1, 6), api.ErrRange}, {instr(api.ICall, 0, big, big, big), api.ErrRange}, {instr(api.ICall, 0, 1, big, big), api.ErrRange}, {instr(api.ICall, -big-1, 1, 4, 5), api.ErrRange},
		{instr(api.IReset, 0, 1), api.OK}, {instr(api.IReset, 1, 3), api.OK}, {instr(api.IReset, 0, 2), api.ErrRange}, {instr(api.IReset, 1, 4), api.ErrRange}, {instr(api.IReset, 0, -1), api.ErrRange}, {instr(api.IReset, 2, 0), api.ErrRange}, {instr(api.IReset, -1, 0), api.ErrRange}, {instr(api.IReset, 0, big), api.ErrRange}, {instr(api.IReset, 9, 0, 1), api.ErrForm}, {instr(api.IReset, 9, 0, 0, 1), api.ErrForm},
		{instr(0), api.ErrForm}, {instr(11), api.ErrForm}, {instr(-1), api.ErrForm}, {instr(big), api.ErrForm}, {instr(-big - 1), api.ErrForm},
	} {
		expectCheck(t, "an instruction", inAll(x.i), x.want)
		if t.Failed() {
			t.Fatalf("the instruction is %v", x.i)
		}
	}
	small := inAll(instr(api.IReset, 0, 0))
	small.Routines[2].Init = []int{1}
	expectCheck(t, "less memories than the routine has", small, api.ErrRange)
	small.Routines[2].Init = []int{1, 2}
	expectCheck(t, "as many memories as the routine has", small, api.OK)
	first := api.Image{Routines: []api.Routine{{Name: "f", Code: []api.Instr{instr(api.ICall)}}}}
	expectCheck(t, "a call in the first routine", first, api.ErrRange)
	im := inAll(instr(api.ILoad, 9))
	im.Routines[2].Code[3] = instr(0)
	expectCheck(t, "two wrong instructions", im, api.ErrRange)
	im.Routines[1].Code = []api.Instr{instr(0)}
	expectCheck(t, "two wrong routines", im, api.ErrForm)
}

// TestCheckAny is P26.1 for images in which anything can be wrong.
func TestCheckAny(t *testing.T) {
	r := rand.New(rand.NewSource(1))
	errors := map[api.Errno]int{}
	for range 30000 {
		im := someImage(r)
		if e := Check(im); e != api.OK {
			t.Fatalf("%v is refused with the error %d", im, int(e))
		}
		im = spoiled(r, im)
		e := Check(im)
		if want := refCheck(im); e != want {
			t.Fatalf("Check of %v returns %d, want %d", im, int(e), int(want))
		}
		errors[e]++
	}
	for _, e := range []api.Errno{api.OK, api.ErrForm, api.ErrName, api.ErrArity, api.ErrType, api.ErrRange} {
		if errors[e] < 100 {
			t.Errorf("the errors are %v", errors)
		}
	}
}
