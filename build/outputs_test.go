package build

import (
	"math/rand"
	"slices"
	"testing"

	"synchrony/api"
	"synchrony/asm"
	"synchrony/cpu"
	"synchrony/image"
	"synchrony/norm"
	"synchrony/samples"
	"synchrony/sim"
)

// expectOutputs is P30.2 and G6: the machine has the outputs of the interpreter, after at most asm.Worst instructions, also if the image was encoded and decoded.
func expectOutputs(t *testing.T, p api.Program, node string, rows [][]int, im api.Image) {
	t.Helper()
	b, e := image.Put(im)
	decoded, f := image.Get(b)
	worst, g := asm.Worst(im)
	if e != api.OK || f != api.OK || g != api.OK || !asm.Same(decoded, im) {
		t.Fatalf("the errors are %d, %d and %d; the image is %v, decoded %v", int(e), int(f), int(g), im, decoded)
	}
	want, e := sim.Run(p, node, rows)
	c, f := cpu.New(decoded)
	if e != api.OK || f != api.OK {
		t.Fatalf("the errors are %d and %d", int(e), int(f))
	}
	for i, row := range rows {
		var values []int
		for _, c := range want[i] {
			if c.Kind != api.Present {
				t.Errorf("an output is %v", c)
			}
			values = append(values, c.V)
		}
		if out, e := c.Step(row); e != api.OK || !slices.Equal(out, values) || c.Count() > worst {
			t.Fatalf("%s: at %d the outputs are %v, want %v; the instructions are %d, at most %d; the error is %d", node, i, out, values, c.Count(), worst, int(e))
		}
	}
}

// tally counts, over all programs, what the options change.
type tally struct{ images, memories, shared, simplified, fused int }

// compile is P30.2 to P30.5 for all nodes of a program and all options.
func (x *tally) compile(t *testing.T, r *rand.Rand, p api.Program) {
	t.Helper()
	for _, n := range p.Nodes {
		rows := samples.Rows(r.Intn, p.Enums, n.In, 12)
		images := map[Options]api.Image{}
		for _, o := range all() {
			im := expectSteps(t, p, n.Name, o)
			expectPorts(t, p, n.Name, im)
			expectOutputs(t, p, n.Name, rows, im)
			images[o] = im
		}
		for o, im := range images {
			x.images++
			x.memories += memories(im)
			changed := func(without Options) bool { return without != o && !asm.Same(im, images[without]) }
			if changed(Options{o.Simplify, false, o.Fuse}) {
				x.shared++
			}
			if changed(Options{false, o.Share, o.Fuse}) {
				x.simplified++
			}
			if changed(Options{o.Simplify, o.Share, false}) {
				x.fused++
			}
			if without := images[Options{o.Simplify, false, o.Fuse}]; memories(im) > memories(without) {
				t.Errorf("%s: with %v there are %d memories, without Share %d", n.Name, o, memories(im), memories(without))
			}
		}
	}
	if t.Failed() {
		t.Fatalf("the program is %v", p)
	}
}

// expect checks that the options changed enough images.
func (x *tally) expect(t *testing.T, least int) {
	t.Helper()
	if min(x.shared, x.simplified, x.fused, x.memories) < least {
		t.Errorf("what was compared is %+v", *x)
	}
}

// twins returns a program in which each delay is there twice, and either of them is read.
func twins(r *rand.Rand, n api.NProgram) api.NProgram {
	n = deepCopy(n)
	for i := range n.Nodes {
		x := &n.Nodes[i]
		twin := map[string]string{}
		for _, eq := range slices.Clone(x.Eqs) {
			if eq.Kind != api.NDelay {
				continue
			}
			is := func(d api.Decl) bool { return d.Name == eq.Left[0] }
			vars := slices.Concat(x.Out, x.Locals)
			d, second := deepCopy(vars[slices.IndexFunc(vars, is)]), deepCopy(eq)
			d.Name += "_2"
			twin[eq.Left[0]], second.Left[0] = d.Name, d.Name
			x.Locals, x.Eqs = append(x.Locals, d), append(x.Eqs, second)
		}
		for k := range x.Eqs {
			readOther(r, &x.Eqs[k].Right, twin)
			for a := range x.Eqs[k].Args {
				readOther(r, &x.Eqs[k].Args[a], twin)
			}
		}
	}
	return n
}

// readOther replaces some variables by their twins.
func readOther(r *rand.Rand, e *api.Expr, twin map[string]string) {
	if name, ok := twin[e.Name]; ok && e.Kind == api.EVar && r.Intn(2) == 0 {
		e.Name = name
	}
	for i := range e.Args {
		readOther(r, &e.Args[i], twin)
	}
}

// TestTexts is for programs with equations of all kinds.
func TestTexts(t *testing.T) {
	r := rand.New(rand.NewSource(3))
	var x tally
	for _, s := range samples.Texts() {
		x.compile(t, r, read(t, s))
		x.compile(t, r, norm.Back(twins(r, normal(t, s))))
	}
	x.expect(t, 20)
}

// TestSources is for random programs with automata.
func TestSources(t *testing.T) {
	r := rand.New(rand.NewSource(4))
	var x tally
	for range 20 {
		x.compile(t, r, samples.Source(r.Intn, 2, 0))
	}
	x.expect(t, 100)
}

// TestRandom is for random programs in normal form, in which there is much to simplify.
func TestRandom(t *testing.T) {
	r := rand.New(rand.NewSource(5))
	var x tally
	for range 25 {
		n := samples.Program(r.Intn)
		x.compile(t, r, norm.Back(n))
		x.compile(t, r, norm.Back(twins(r, n)))
	}
	x.expect(t, 50)
}

// TestWhole is P30.2 for the examples of DOC.md: their outputs, written by hand.
func TestWhole(t *testing.T) {
	for _, x := range []struct {
		text, node string
		rows, want [][]int
	}{
		{"node count(r: bool) returns (n: int) let n = if r then 0 else (0 fby n) + 1; tel", "count", [][]int{{0}, {0}, {1}, {0}}, [][]int{{1}, {2}, {0}, {1}}},
		{"node f() returns (x: int) let x = 0 -> pre x + 1; tel", "f", [][]int{{}, {}, {}}, [][]int{{0}, {1}, {2}}},
		{"node f(a: int; b: int; c: bool) returns (x: int) let x = merge c (true -> a when true(c)) (false -> b when false(c)); tel", "f", [][]int{{1, 2, 1}, {3, 4, 0}, {5, 6, 1}}, [][]int{{1}, {4}, {5}}},
		{"node f() returns (x: int) let automaton state Up do x = 1; until true then Down; done state Down do x = -1; until true then Up; done end tel", "f", [][]int{{}, {}, {}}, [][]int{{1}, {-1}, {1}}},
		{"node count(r: bool) returns (n: int) let n = if r then 0 else (0 fby n) + 1; tel node f(r: bool) returns (x: int) let x = count(false) every r; tel", "f", [][]int{{0}, {0}, {1}, {0}}, [][]int{{1}, {2}, {1}, {2}}},
		{"node f(a: int) returns (x: int) var w: bool; let w = '1(01)'; x = merge w (true -> (0 fby (a when true(w)))) (false -> a when false(w)); tel", "f", [][]int{{5}, {6}, {7}, {8}, {9}}, [][]int{{0}, {6}, {5}, {8}, {7}}},
	} {
		for _, o := range all() {
			im, e := Text(x.text, x.node, o)
			if e != api.OK {
				t.Fatalf("%s: the error is %d", x.text, int(e))
			}
			expectOutputs(t, read(t, x.text), x.node, x.rows, im)
			c, _ := cpu.New(im)
			for i, row := range x.rows {
				if out, e := c.Step(row); e != api.OK || !slices.Equal(out, x.want[i]) {
					t.Errorf("%s: at %d the outputs are %v, want %v", x.text, i, out, x.want[i])
				}
			}
		}
	}
}
