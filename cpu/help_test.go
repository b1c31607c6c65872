package cpu

import (
	"math/rand"
	"slices"
	"strings"
	"testing"

	"synchrony/api"
	"synchrony/asm"
	"synchrony/clone"
	"synchrony/samples"
	"synchrony/value"
)

// image returns the image with a text, whose lines are separated by slashes.
func image(t *testing.T, s string) api.Image {
	t.Helper()
	im, line, e := asm.Parse(strings.ReplaceAll(s, "/", "\n") + "\n")
	if e != api.OK {
		t.Fatalf("line %d of %q is wrong: %d", line, s, int(e))
	}
	return im
}

// machine returns a new machine with an image.
func machine(t *testing.T, im api.Image) *Cpu {
	t.Helper()
	c, e := New(im)
	if e != api.OK {
		t.Fatalf("New of %v returns the error %d", im, int(e))
	}
	return c
}

// main returns the main routine.
func main(im api.Image) api.Routine { return im.Routines[len(im.Routines)-1] }

// row returns inputs of the main routine.
func row(r *rand.Rand, im api.Image) []int {
	var enums []api.Enum
	for _, tags := range im.Enums {
		enums = append(enums, api.Enum{Tags: make([]string, tags)})
	}
	var in []api.Decl
	for _, t := range main(im).In {
		in = append(in, api.Decl{Type: t})
	}
	return samples.Row(r.Intn, enums, in)
}

// expectState checks the memory and the number of instructions.
func expectState(t *testing.T, what any, c *Cpu, memory []int, count int) {
	t.Helper()
	if m := c.Memory(); !slices.Equal(m, memory) || c.Count() != count {
		t.Errorf("%v: the memory is %v, want %v; the instructions are %d, want %d", what, m, memory, c.Count(), count)
	}
}

// expectStep checks a step.
func expectStep(t *testing.T, what any, c *Cpu, in, out, memory []int, count int) {
	t.Helper()
	before := slices.Clone(in)
	is, e := c.Step(in)
	if e != api.OK || !slices.Equal(is, out) {
		t.Errorf("%v: the outputs for %v are %v, want %v; the error is %d", what, in, is, out, int(e))
	}
	if !slices.Equal(in, before) {
		t.Errorf("%v: the inputs %v have changed", what, before)
	}
	expectState(t, what, c, memory, count)
}

// reference executes images word by word as the chapter says.
type reference struct {
	api.Image
	m     []int
	count int
}

func newReference(im api.Image) *reference {
	return &reference{Image: clone.Image(im), m: slices.Clone(main(im).Init)}
}

func (x *reference) step(in []int) []int {
	x.count = 0
	return x.execute(len(x.Routines)-1, 0, in)
}

// execute executes the routine k with a base.
func (x *reference) execute(k, base int, in []int) []int {
	r := make(map[int]int)
	for i, v := range in {
		r[i] = v
	}
	code := x.Routines[k].Code
	for at := 0; at != len(code); {
		i := code[at]
		at++
		x.count++
		switch i.Op {
		case api.ILoad:
			r[i.A] = i.B
		case api.IMove:
			r[i.A] = r[i.B]
		case api.IRead:
			r[i.A] = x.m[base+i.B]
		case api.IWrite:
			x.m[base+i.A] = r[i.B]
		case api.IUnary:
			r[i.A] = refApply(i.C, r[i.B])
		case api.IApply:
			r[i.A] = refApply(i.D, r[i.B], r[i.C])
		case api.IJump:
			at = i.B
		case api.IZero:
			if r[i.A] == 0 {
				at = i.B
			}
		case api.ICall:
			var args []int
			for n := range x.Routines[i.A].In {
				args = append(args, r[i.C+n])
			}
			for n, v := range x.execute(i.A, base+i.B, args) {
				r[i.D+n] = v
			}
		case api.IReset:
			for n, v := range x.Routines[i.A].Init {
				x.m[base+i.B+n] = v
			}
		}
	}
	var out []int
	for n := range x.Routines[k].Out {
		out = append(out, r[len(x.Routines[k].In)+n])
	}
	return out
}

func refApply(op int, args ...int) int {
	v, e := value.Apply(op, args...)
	if e != api.OK {
		return 0
	}
	return v
}
