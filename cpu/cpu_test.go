package cpu

import (
	"math/rand"
	"slices"
	"strconv"
	"testing"

	"synchrony/api"
	"synchrony/asm"
	"synchrony/clone"
	"synchrony/samples"
)

// TestInstructions is P28.2 and P28.4: what each instruction does. The routine has the inputs 0 (any number) and 1 (bool), the outputs 2 and 3, and the memories 10, 20, -30; the routine one adds its input to its memory, and returns the sum and the input.
func TestInstructions(t *testing.T) {
	one := "routine one/in 2/out 2 2/regs 4/init 5/read 3 0/apply 1 3 0 6/write 0 1/move 2 0/end"
	for _, x := range []struct {
		code   string
		in     []int
		out    []int
		memory []int
		count  int
	}{
		{"", []int{7, 1}, []int{0, 0}, []int{10, 20, -30}, 0},
		{"load 2 -32768/load 3 32767", []int{7, 1}, []int{-32768, 32767}, []int{10, 20, -30}, 2},
		{"load 3 1/load 3 2", []int{7, 1}, []int{0, 2}, []int{10, 20, -30}, 2},
		{"move 2 0/move 3 1", []int{7, 1}, []int{7, 1}, []int{10, 20, -30}, 2},
		{"move 3 0/move 3 3", []int{7, 1}, []int{0, 7}, []int{10, 20, -30}, 2},
		{"move 2 4/move 3 5", []int{7, 1}, []int{0, 0}, []int{10, 20, -30}, 2},
		{"move 0 1/move 2 0", []int{7, 1}, []int{1, 0}, []int{10, 20, -30}, 2},
		{"read 2 0/read 3 2", []int{7, 1}, []int{10, -30}, []int{10, 20, -30}, 2},
		{"write 0 0/write 2 1", []int{7, 1}, []int{0, 0}, []int{7, 20, 1}, 2},
		{"write 1 0/read 2 1/write 1 1/read 3 1", []int{7, 1}, []int{7, 1}, []int{10, 1, -30}, 4},
		{"unary 2 0 2/unary 3 1 1", []int{7, 1}, []int{-7, 0}, []int{10, 20, -30}, 2},
		{"unary 2 0 2/unary 3 1 1", []int{-32768, 0}, []int{-32768, 1}, []int{10, 20, -30}, 2},
		{"load 2 5/unary 2 0 1", []int{7, 1}, []int{0, 0}, []int{10, 20, -30}, 2},
		{"load 2 5/unary 2 0 1", []int{-1, 1}, []int{0, 0}, []int{10, 20, -30}, 2},
		{"apply 2 0 1 6/apply 3 1 0 7", []int{7, 1}, []int{8, -6}, []int{10, 20, -30}, 2},
		{"apply 2 0 1 6/apply 3 0 0 8", []int{32767, 1}, []int{-32768, 1}, []int{10, 20, -30}, 2},
		{"apply 2 0 1 9/apply 3 0 1 10", []int{7, 0}, []int{0, 7}, []int{10, 20, -30}, 2},
		{"apply 2 0 1 3/apply 3 0 1 4", []int{0, 1}, []int{0, 1}, []int{10, 20, -30}, 2},
		{"load 2 5/load 3 5/apply 2 0 1 3/apply 3 1 0 4", []int{7, 1}, []int{0, 0}, []int{10, 20, -30}, 4},
		{"load 2 5/apply 2 1 0 5/apply 3 0 0 5", []int{-1, 1}, []int{0, 0}, []int{10, 20, -30}, 3},
		{"apply 2 0 1 13/apply 3 0 1 15", []int{7, 1}, []int{0, 1}, []int{10, 20, -30}, 2},
		{"apply 2 2 3 11/apply 2 2 1 11", []int{7, 1}, []int{1, 0}, []int{10, 20, -30}, 2},
		{"jump 2/load 2 5/load 3 6", []int{7, 1}, []int{0, 6}, []int{10, 20, -30}, 2},
		{"load 2 5/jump 3/load 3 6", []int{7, 1}, []int{5, 0}, []int{10, 20, -30}, 2},
		{"jump 1", []int{7, 1}, []int{0, 0}, []int{10, 20, -30}, 1},
		{"zero 1 2/load 2 5/load 3 6", []int{7, 1}, []int{5, 6}, []int{10, 20, -30}, 3},
		{"zero 1 2/load 2 5/load 3 6", []int{7, 0}, []int{0, 6}, []int{10, 20, -30}, 2},
		{"zero 0 2/load 2 5/load 3 6", []int{-1, 0}, []int{5, 6}, []int{10, 20, -30}, 3},
		{"zero 5 1", []int{7, 0}, []int{0, 0}, []int{10, 20, -30}, 1},
		{"zero 0 3/load 2 5/jump 4/load 2 6/load 3 7", []int{7, 0}, []int{5, 7}, []int{10, 20, -30}, 4},
		{"zero 0 3/load 2 5/jump 4/load 2 6/load 3 7", []int{0, 0}, []int{6, 7}, []int{10, 20, -30}, 3},
		{"call 0 0 0 2", []int{7, 1}, []int{17, 7}, []int{17, 20, -30}, 5},
		{"call 0 2 1 2", []int{7, 1}, []int{-29, 1}, []int{10, 20, -29}, 5},
		{"call 0 1 0 0/move 2 0/move 3 1", []int{7, 1}, []int{27, 7}, []int{10, 27, -30}, 7},
		{"call 0 1 0 4/call 0 1 4 2/move 2 5", []int{7, 1}, []int{7, 27}, []int{10, 54, -30}, 11},
		{"call 0 0 5 2/call 0 0 5 2", []int{7, 1}, []int{10, 0}, []int{10, 20, -30}, 10},
		{"zero 1 2/call 0 0 0 2/load 3 4", []int{7, 0}, []int{0, 4}, []int{10, 20, -30}, 2},
		{"reset 0 0/reset 0 2", []int{7, 1}, []int{0, 0}, []int{5, 20, 5}, 2},
		{"reset 0 1/call 0 1 0 2/reset 0 0", []int{7, 1}, []int{12, 7}, []int{5, 12, -30}, 7},
		{"call 1 3 6 6/reset 1 3", []int{7, 1}, []int{0, 0}, []int{10, 20, -30}, 2},
	} {
		code := x.code
		if code != "" {
			code += "/"
		}
		im := image(t, "enums/"+one+"/routine none/in/out/regs 0/init/end/routine main/in 2 1/out 2 2/regs 6/init 10 20 -30/"+code+"end")
		c := machine(t, im)
		expectState(t, x.code, c, []int{10, 20, -30}, 0)
		expectStep(t, x.code, c, x.in, x.out, x.memory, x.count)
		y := newReference(im)
		if out := y.step(x.in); !slices.Equal(out, x.out) || !slices.Equal(y.m, x.memory) || y.count != x.count {
			t.Errorf("%s: the reference returns %v after %d instructions; the memory is %v", x.code, out, y.count, y.m)
		}
	}
}

// TestExamples is the examples of the chapter.
func TestExamples(t *testing.T) {
	count := "enums/routine count/in/out 2/regs 2/init 7/read 0 0/load 1 1/apply 1 0 1 6/write 0 1/end"
	c := machine(t, image(t, count))
	for i := 7; i < 12; i++ {
		expectStep(t, i, c, nil, []int{i}, []int{i + 1}, 4)
	}
	c = machine(t, image(t, "enums/routine pair/in/out 2/regs 3/init -1 -2/read 0 0/read 1 1/write 0 1/apply 1 0 1 6/write 1 1/end/routine main/in 1/out 2/regs 2/init 9 1 2/zero 0 2/reset 0 1/call 0 1 1 1/end"))
	expectStep(t, "no reset", c, []int{0}, []int{1}, []int{9, 2, 3}, 7)
	expectStep(t, "a reset", c, []int{1}, []int{-1}, []int{9, -2, -3}, 8)
}

// TestBase is P28.2 for bases that add up, and registers that are 0 again in each call.
func TestBase(t *testing.T) {
	im := image(t, "enums/"+
		"routine low/in 2/out 2/regs 3/init 0/read 2 0/apply 2 2 0 6/write 0 2/move 1 2/end/"+
		"routine mid/in 2/out 2 2/regs 5/init 1 2 3/call 0 1 0 1/call 0 2 1 2/zero 4 4/load 1 99/load 4 7/end/"+
		"routine main/in 2/out 2 2 2 2/regs 5/init 0 1 2 3 4 5 6/call 1 1 0 1/call 1 4 0 3/reset 1 4/end")
	c := machine(t, im)
	expectStep(t, "the first step", c, []int{10}, []int{12, 15, 15, 21}, []int{0, 1, 12, 15, 1, 2, 3}, 3+2*(4+8))
	expectStep(t, "the second step", c, []int{100}, []int{112, 127, 102, 105}, []int{0, 1, 112, 127, 1, 2, 3}, 3+2*(4+8))
}

// expectSame checks steps of an image with the reference, and P28.5. It returns how many instructions there were.
func expectSame(t *testing.T, r *rand.Rand, im api.Image) int {
	t.Helper()
	before := clone.Image(im)
	c, x := machine(t, im), newReference(im)
	worst, e := asm.Worst(im)
	if e != api.OK {
		t.Fatalf("asm.Worst returns %d", int(e))
	}
	executed := 0
	for i := range 12 {
		in := row(r, im)
		switch i {
		case 4:
			c.Reset()
			x = newReference(im)
			expectState(t, "reset", c, x.m, 0)
		case 8:
			other := machine(t, im)
			if e := other.Load(c.Memory()); e != api.OK {
				t.Errorf("Load of a memory returns %d", int(e))
			}
			expectState(t, "loaded", other, c.Memory(), 0)
			c = other
		}
		expectStep(t, i, c, in, x.step(in), x.m, x.count)
		if c.Count() > worst {
			t.Errorf("%d instructions, at most %d", c.Count(), worst)
		}
		executed += c.Count()
	}
	if !asm.Same(im, before) {
		t.Errorf("the image has changed")
	}
	if t.Failed() {
		t.Fatal(im)
	}
	return executed
}

// TestAny is P28.1 to P28.5 for images in which code does anything.
func TestAny(t *testing.T) {
	r := rand.New(rand.NewSource(1))
	executed := 0
	for range 10000 {
		executed += expectSame(t, r, samples.Image(r.Intn, 30))
	}
	if executed < 1000000 {
		t.Errorf("there were only %d instructions", executed)
	}
}

// TestNew is P28.1: the errors of asm.Check, and an image that is not kept.
func TestNew(t *testing.T) {
	right := image(t, "enums 2/routine f/in 3/out 2/regs 2/init 1 2/read 1 0/end")
	for _, x := range []struct {
		change func(im *api.Image)
		e      api.Errno
	}{
		{func(im *api.Image) {}, api.OK},
		{func(im *api.Image) { im.Routines = nil }, api.ErrForm},
		{func(im *api.Image) { im.Enums = make([]int, 25) }, api.ErrLimit},
		{func(im *api.Image) { im.Enums[0] = 17 }, api.ErrRange},
		{func(im *api.Image) { im.Routines[0].Name = "" }, api.ErrName},
		{func(im *api.Image) { im.Routines[0].In[0] = 4 }, api.ErrType},
		{func(im *api.Image) { im.Routines[0].Regs = 1 }, api.ErrArity},
		{func(im *api.Image) { im.Routines[0].Init[1] = 1 << 15 }, api.ErrRange},
		{func(im *api.Image) { im.Routines[0].Code[0].Op = 11 }, api.ErrForm},
		{func(im *api.Image) { im.Routines[0].Code[0].A = 2 }, api.ErrRange},
		{func(im *api.Image) { im.Routines[0].Code[0] = api.Instr{Op: api.IJump} }, api.ErrForm},
		{func(im *api.Image) { im.Routines[0].Code[0] = api.Instr{Op: api.ICall} }, api.ErrRange},
	} {
		im := clone.Image(right)
		x.change(&im)
		c, e := New(im)
		if e != x.e || (c == nil) != (e != api.OK) || asm.Check(im) != e {
			t.Errorf("%v: the error is %d, want %d", im, int(e), int(x.e))
		}
	}
	im := image(t, "enums 2/routine one/in/out 2/regs 1/init 5/read 0 0/end/routine f/in 3/out 2/regs 2/init 1 2/call 0 1 1 1/end")
	c := machine(t, im)
	im.Enums[0], im.Routines[0].Code[0].B, im.Routines[0].Init[0] = 1, 7, 7
	im.Routines[1].In[0], im.Routines[1].Out[0], im.Routines[1].Init[1], im.Routines[1].Code[0].A = api.TInt, api.TBool, 9, 9
	im.Routines[0].Name, im.Routines[0].Regs = "", 0
	expectStep(t, "a changed image", c, []int{1}, []int{2}, []int{1, 2}, 2)
	c.Reset()
	expectStep(t, "a changed image, after a reset", c, []int{0}, []int{2}, []int{1, 2}, 2)
}

// TestStepErrors is P28.2: the errors of Step, which change nothing.
func TestStepErrors(t *testing.T) {
	im := image(t, "enums 1 16 3/routine f/in 1 2 3 4 5/out/regs 6/init 4/load 5 1/write 0 5/end")
	c := machine(t, im)
	for _, x := range []struct {
		in []int
		e  api.Errno
	}{
		{nil, api.ErrArity},
		{[]int{0, 0, 0, 0}, api.ErrArity},
		{[]int{0, 0, 0, 0, 0, 0}, api.ErrArity},
		{[]int{2, 0, 0, 0}, api.ErrArity},
		{[]int{-1, 0, 0, 0, 0}, api.ErrRange},
		{[]int{2, 0, 0, 0, 0}, api.ErrRange},
		{[]int{0, -32769, 0, 0, 0}, api.ErrRange},
		{[]int{0, 32768, 0, 0, 0}, api.ErrRange},
		{[]int{0, 0, -1, 0, 0}, api.ErrRange},
		{[]int{0, 0, 1, 0, 0}, api.ErrRange},
		{[]int{0, 0, 0, -1, 0}, api.ErrRange},
		{[]int{0, 0, 0, 16, 0}, api.ErrRange},
		{[]int{0, 0, 0, 0, -1}, api.ErrRange},
		{[]int{0, 0, 0, 0, 3}, api.ErrRange},
		{[]int{0, 0, 0, 0, 1<<63 - 1}, api.ErrRange},
		{[]int{0, 0, 0, 0, -1 << 63}, api.ErrRange},
		{[]int{0, 0, 0, 0, 0}, api.OK},
		{[]int{1, 32767, 0, 15, 2}, api.OK},
		{[]int{1, -32768, 0, 15, 2}, api.OK},
	} {
		c.Reset()
		out, e := c.Step(x.in)
		if e != x.e || len(out) > 0 {
			t.Errorf("%v: the error is %d, want %d; the outputs are %v", x.in, int(e), int(x.e), out)
		}
		if e == api.OK {
			expectState(t, x.in, c, []int{1}, 2)
			continue
		}
		expectState(t, x.in, c, []int{4}, 0)
		c.Step(make([]int, 5))
		c.Step(x.in)
		expectState(t, x.in, c, []int{1}, 2)
	}
}

// TestLoad is P28.3: the errors of Load, which change nothing; and P28.4: it does not change Count.
func TestLoad(t *testing.T) {
	c := machine(t, image(t, "enums/routine f/in/out 2/regs 1/init 4 5/read 0 1/end"))
	for _, x := range []struct {
		m []int
		e api.Errno
	}{
		{nil, api.ErrArity},
		{[]int{1}, api.ErrArity},
		{[]int{1, 2, 3}, api.ErrArity},
		{[]int{1 << 15}, api.ErrArity},
		{[]int{1, 1 << 15}, api.ErrRange},
		{[]int{1, -1<<15 - 1}, api.ErrRange},
		{[]int{1 << 62, 1}, api.ErrRange},
		{[]int{-1 << 63, 1}, api.ErrRange},
		{[]int{-1 << 15, 1<<15 - 1}, api.OK},
		{[]int{2, 3}, api.OK},
	} {
		for count := range 2 {
			c.Reset()
			want := []int{4, 5}
			if count > 0 {
				expectStep(t, x.m, c, nil, []int{5}, want, 1)
			}
			if e := c.Load(x.m); e != x.e {
				t.Errorf("%v: the error is %d, want %d", x.m, int(e), int(x.e))
			}
			if x.e == api.OK {
				want = x.m
			}
			expectState(t, x.m, c, want, count)
			expectStep(t, x.m, c, nil, want[1:], want, 1)
		}
	}
	empty := machine(t, image(t, "enums/routine f/in/out/regs 0/init/end"))
	if e := empty.Load(nil); e != api.OK {
		t.Errorf("Load of no memory returns %d", int(e))
	}
	if e := empty.Load([]int{0}); e != api.ErrArity {
		t.Errorf("Load of a memory too many returns %d", int(e))
	}
	expectStep(t, "nothing", empty, nil, nil, nil, 0)
}

// TestReset is P28.3 and P28.4.
func TestReset(t *testing.T) {
	c := machine(t, image(t, "enums/routine f/in 2/out/regs 1/init 4/write 0 0/end"))
	c.Reset()
	expectState(t, "at the beginning", c, []int{4}, 0)
	expectStep(t, "a step", c, []int{7}, nil, []int{7}, 1)
	c.Reset()
	expectState(t, "after a step", c, []int{4}, 0)
	c.Load([]int{9})
	expectState(t, "loaded", c, []int{9}, 0)
	c.Reset()
	expectState(t, "after Load", c, []int{4}, 0)
}

// TestMemory is rule 4: nothing that is passed or returned is kept or changed, and machines are independent.
func TestMemory(t *testing.T) {
	im := image(t, "enums/routine f/in 2 2/out 2 2/regs 4/init 4 5/read 2 0/read 3 1/write 0 0/write 1 1/end")
	a, b := machine(t, im), machine(t, im)
	in := []int{1, 2}
	first, _ := a.Step(in)
	in[0], first[0], first[1] = 9, 9, 9
	second, _ := a.Step([]int{3, 4})
	if !slices.Equal(second, []int{1, 2}) || !slices.Equal(first, []int{9, 9}) {
		t.Errorf("the outputs are %v and %v", first, second)
	}
	m := a.Memory()
	m[0] = 8
	loaded := []int{6, 7}
	expectState(t, "a changed memory", a, []int{3, 4}, 4)
	a.Load(loaded)
	loaded[1] = 0
	expectState(t, "a changed argument", a, []int{6, 7}, 4)
	a.Step(in)
	if !slices.Equal(loaded, []int{6, 0}) {
		t.Errorf("the argument is %v", loaded)
	}
	expectState(t, "another machine", b, []int{4, 5}, 0)
}

// TestNil is rule 1: a nil machine, and one that New did not return, which is like it.
func TestNil(t *testing.T) {
	for _, c := range []*Cpu{nil, {}} {
		c.Reset()
		if out, e := c.Step(nil); e != api.ErrNil || len(out) > 0 {
			t.Errorf("Step returns %v and %d", out, int(e))
		}
		if out, e := c.Step([]int{1}); e != api.ErrNil || len(out) > 0 {
			t.Errorf("Step returns %v and %d", out, int(e))
		}
		if e := c.Load(nil); e != api.ErrNil {
			t.Errorf("Load returns %d", int(e))
		}
		if e := c.Load([]int{1 << 20}); e != api.ErrNil {
			t.Errorf("Load returns %d", int(e))
		}
		if m, n := c.Memory(), c.Count(); len(m) > 0 || n != 0 {
			t.Errorf("the memory is %v, the instructions are %d", m, n)
		}
	}
}

// TestLargest is P28.2 for the greatest numbers of routines, registers, memories and instructions.
func TestLargest(t *testing.T) {
	var im api.Image
	for k := range api.MaxNodes {
		x := api.Routine{Name: "f", In: []int{api.TInt}, Out: []int{api.TInt}, Regs: api.MaxCode, Init: make([]int, api.MaxMemory)}
		last := api.MaxCode - 1
		x.Code = []api.Instr{{Op: api.IMove, A: last, B: 0}, {Op: api.ILoad, A: 1, B: 1}, {Op: api.IApply, A: 1, B: 1, C: 0, D: api.OpAdd}}
		if k > 0 {
			x.Code = append(x.Code, api.Instr{Op: api.ICall, A: k - 1, C: 1, D: last}, api.Instr{Op: api.IMove, A: 1, B: last})
		}
		x.Code = append(x.Code, api.Instr{Op: api.IRead, A: 2, B: api.MaxMemory - 1}, api.Instr{Op: api.IApply, A: 2, B: 2, C: 1, D: api.OpAdd}, api.Instr{Op: api.IWrite, A: api.MaxMemory - 1, B: 2})
		im.Routines = append(im.Routines, x)
	}
	c, x := machine(t, im), newReference(im)
	for i := range 5 {
		out := x.step([]int{i})
		expectStep(t, i, c, []int{i}, out, x.m, 8*api.MaxNodes-2)
		if out[0] != i+api.MaxNodes {
			t.Errorf("the output is %d", out[0])
		}
	}
	long := api.Routine{Name: "f", Out: []int{api.TInt}, Regs: 2}
	long.Code = append([]api.Instr{{Op: api.ILoad, A: 1, B: 3}}, slices.Repeat([]api.Instr{{Op: api.IApply, A: 0, B: 0, C: 1, D: api.OpSub}}, api.MaxCode-1)...)
	c = machine(t, api.Image{Routines: []api.Routine{long}})
	expectStep(t, "the longest code", c, nil, []int{-3*(api.MaxCode-1) + 1<<16}, nil, api.MaxCode)
}

// TestDepth is P28.4 and P28.5 for calls in calls.
func TestDepth(t *testing.T) {
	text := "enums/routine f/in 2/out 2/regs 2/init 0/read 1 0/apply 1 1 0 6/write 0 1/end"
	for k := range 16 {
		inner := strconv.Itoa(k)
		text += "/routine f/in 2/out 2/regs 2/init 0/call " + inner + " 0 0 1/call " + inner + " 0 1 1/end"
	}
	im := image(t, text)
	c, x := machine(t, im), newReference(im)
	worst, _ := asm.Worst(im)
	expectStep(t, "calls in calls", c, []int{3}, x.step([]int{3}), x.m, worst)
	if worst != 3<<16+1<<17-2 {
		t.Errorf("at most %d instructions", worst)
	}
}
