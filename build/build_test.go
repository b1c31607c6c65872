package build

import (
	"math/rand"
	"reflect"
	"slices"
	"strconv"
	"strings"
	"testing"

	"synchrony/accept"
	"synchrony/api"
	"synchrony/asm"
	"synchrony/clone"
	"synchrony/emit"
	"synchrony/fuse"
	"synchrony/gen"
	"synchrony/norm"
	"synchrony/obj"
	"synchrony/samples"
	"synchrony/sched"
	"synchrony/shape"
	"synchrony/share"
	"synchrony/simp"
)

// steps returns the object code to which the steps lead, one after the other.
func steps(t *testing.T, p api.Program, node string, o Options) api.Objects {
	t.Helper()
	n := reference(must(t, norm.Program, p), node)
	if o.Simplify {
		n = must(t, simp.Program, n)
	}
	if o.Share {
		n = must(t, share.Program, n)
	}
	code := must(t, gen.Program, must(t, sched.Program, n))
	if o.Fuse {
		code = must(t, fuse.Program, code)
	}
	return code
}

// expectSteps checks what Objects and Image return for a node of an accepted program, and returns the image.
func expectSteps(t *testing.T, p api.Program, node string, o Options) api.Image {
	t.Helper()
	before := deepCopy(p)
	code, e := Objects(p, node, o)
	if e != api.OK || !obj.Same(code, steps(t, p, node, o)) {
		t.Errorf("Objects for %s and %v returns %v and %d", node, o, code, int(e))
	}
	if last := len(code.Classes) - 1; last < 0 || code.Classes[last].Name != node {
		t.Errorf("Objects for %s and %v returns %v", node, o, code)
	}
	im, e := Image(p, node, o)
	if want := must(t, emit.Program, code); e != api.OK || !asm.Same(im, want) || im.Routines[len(im.Routines)-1].Name != node {
		t.Errorf("Image for %s and %v returns %v and %d, want %v", node, o, im, int(e), want)
	}
	if !shape.Same(p, before) {
		t.Errorf("the argument has changed")
	}
	expectNewMemory(t, p, code)
	expectNewMemory(t, p, im)
	return im
}

// expectPorts checks P30.4.
func expectPorts(t *testing.T, p api.Program, node string, im api.Image) {
	t.Helper()
	in, out, e := accept.Ports(p, node)
	types := func(l []api.Decl) []int { return clone.Map(l, func(d api.Decl) int { return d.Type }) }
	main := im.Routines[len(im.Routines)-1]
	if e != api.OK || !slices.Equal(main.In, types(in)) || !slices.Equal(main.Out, types(out)) {
		t.Errorf("%s has the inputs %v and outputs %v, want %v and %v; the error is %d", node, main.In, main.Out, in, out, int(e))
	}
}

// memories returns how many memories an image has.
func memories(im api.Image) int { return len(im.Routines[len(im.Routines)-1].Init) }

// TestOptions is P30.4: what each option does, and no other one.
func TestOptions(t *testing.T) {
	p := read(t, "node f(a: int; c: bool) returns (x: int) var y: int; z: int; let y = (0 fby a) + (0 fby a); z = a * (1 + 1) * 1; x = (merge c (true -> y when true(c)) (false -> 1)) + (merge c (true -> 2) (false -> z when false(c))); tel")
	for _, o := range all() {
		code, e := Objects(p, "f", o)
		if e != api.OK {
			t.Fatalf("%v: the error is %d", o, int(e))
		}
		c := code.Classes[0]
		simple := !slices.ContainsFunc(c.Step, func(s api.Stmt) bool {
			return s.Name == "z" && len(s.Right.Args) > 0 && s.Right.Args[0].Kind == api.EOp
		})
		if (len(c.Mems) == 1) != o.Share || (fuse.Cases(c.Step) == 1) != o.Fuse || simple != o.Simplify {
			t.Errorf("%v: the class is %v", o, c)
		}
		expectSteps(t, p, "f", o)
	}
}

// TestOrder is the order of the steps of Objects: the nodes are pruned before the program is simplified, and simplified before delays are shared.
func TestOrder(t *testing.T) {
	p := read(t, node("f", "a")+node("g", "if false then f(a, c) else a")+node("h", "f(a, c)"))
	for _, o := range all() {
		code, e := Objects(p, "g", o)
		if e != api.OK || len(code.Classes) != 2 || code.Classes[0].Name != "f" || (len(code.Classes[1].Insts) == 0) != o.Simplify {
			t.Errorf("%v: the object code is %v, the error %d", o, code, int(e))
		}
	}
	p = read(t, "node f(a: int) returns (x: int; y: int) var u: int; v: int; let u = a + 1; v = a + 1; x = 0 fby u; y = 0 fby v; tel")
	for _, o := range all() {
		im, e := Image(p, "f", o)
		want := 2
		if o.Simplify && o.Share {
			want = 1
		}
		if e != api.OK || memories(im) != want {
			t.Errorf("%v: there are %d memories, want %d; the error is %d", o, memories(im), want, int(e))
		}
	}
}

// TestExamples is the examples of the chapter: names, and errors.
func TestExamples(t *testing.T) {
	count := "node count(r: bool) returns (n: int) let n = if r then 0 else (0 fby n) + 1; tel"
	for _, o := range all() {
		im, e := Text(count, "count", o)
		if e != api.OK || len(im.Routines) != 1 || im.Routines[0].Name != "count" {
			t.Errorf("%v: the image is %v, the error %d", o, im, int(e))
		}
		for _, name := range []string{"", "f", "count"} {
			if im, e := Text("", name, o); e != api.ErrName || !empty(im) {
				t.Errorf("%v: the empty text returns %v and %d", o, im, int(e))
			}
			if im, e := Text("node count(r: bool) returns (n: int) let n = pre n; tel", name, o); e != api.ErrProgram || !empty(im) {
				t.Errorf("%v: a program that is not accepted returns %v and %d", o, im, int(e))
			}
		}
	}
}

// expectError checks that there is no object code and no image.
func expectError(t *testing.T, what string, p api.Program, node string, want api.Errno) {
	t.Helper()
	for _, o := range all() {
		if code, e := Objects(p, node, o); e != want || !empty(code) {
			t.Errorf("%s: Objects for %q and %v returns %v and %d, want the error %d", what, node, o, code, int(e), int(want))
		}
		if im, e := Image(p, node, o); e != want || !empty(im) {
			t.Errorf("%s: Image for %q and %v returns %v and %d, want the error %d", what, node, o, im, int(e), int(want))
		}
	}
}

// TestPrograms is the first error of Objects and Image: programs that are not accepted, whether there is a node or not.
func TestPrograms(t *testing.T) {
	right := read(t, node("f", "a"))
	programs := []api.Program{
		{Enums: make([]api.Enum, api.MaxEnums+1)},
		{Nodes: []api.Node{{Name: "f"}}},
		{Nodes: append(right.Nodes, right.Nodes...)},
		{Nodes: append(right.Nodes, api.Node{Name: "g"})},
	}
	for _, right := range []string{"y", "true", "a when true(c)", "pre x", "pre pre a", "x", "f(a, c)", "g(a, c)", "a + c"} {
		programs = append(programs, read(t, node("f", right)))
	}
	programs = append(programs, read(t, "node f(c: bool) returns (x: int) var y: int when true(c); let automaton state A do x = 1; y = 1; done end tel"))
	for i, p := range programs {
		for _, name := range []string{"f", "g", ""} {
			expectError(t, "the program "+strconv.Itoa(i), p, name, api.ErrProgram)
		}
	}
}

// TestNames is their second error: nodes that a program does not have, those of its states among them.
func TestNames(t *testing.T) {
	p := read(t, "type E = P | Q; "+node("f", "a")+"node g(a: int) returns (x: int) let automaton state A do x = a; until a > 1 then B; done state B do x = 2; done end tel")
	for _, name := range []string{"", "F", "x", "E", "P", "A", "body_1", "body_2", "mode_1", "m_1", "node"} {
		expectError(t, "a name", p, name, api.ErrName)
	}
	for _, o := range all() {
		if im := expectSteps(t, p, "g", o); len(im.Routines) != 3 {
			t.Errorf("%v: the image is %v", o, im)
		}
		expectSteps(t, p, "f", o)
	}
	for _, p := range []api.Program{{}, {Enums: samples.Enums()}} {
		expectError(t, "no node", p, "f", api.ErrName)
	}
}

// chain returns the text of a node with so many delays, one after the other.
func chain(name string, n int) string {
	var b strings.Builder
	b.WriteString("node " + name + "(a: int) returns (x0: int) ")
	for k := 1; k < n; k++ {
		if k == 1 {
			b.WriteString("var ")
		}
		b.WriteString("x" + strconv.Itoa(k) + ": int; ")
	}
	b.WriteString("let ")
	for k := range n {
		next := "x" + strconv.Itoa(k+1)
		if k == n-1 {
			next = "a"
		}
		b.WriteString("x" + strconv.Itoa(k) + " = " + strconv.Itoa(k) + " fby " + next + "; ")
	}
	return b.String() + "tel "
}

// calls returns the text of a node that calls another one so many times, with different arguments.
func calls(name, called string, n int) string {
	l := make([]string, n)
	for k := range l {
		l[k] = called + "(a + " + strconv.Itoa(k) + ")"
	}
	for len(l) > 1 { // a sum that is not deep
		half := len(l) / 2
		for k := range half {
			l[k] = "(" + l[k] + " + " + l[len(l)-1-k] + ")"
		}
		l = l[:len(l)-half]
	}
	return "node " + name + "(a: int) returns (x: int) let x = " + l[0] + "; tel "
}

// TestLimits is their last errors: the limits of normal forms, for all nodes of a program, and those of images, for the nodes that are needed.
func TestLimits(t *testing.T) {
	for more := range 2 {
		p := read(t, chain("f", 256)+calls("g", "f", 64+more)+node("h", "a"))
		for _, o := range all() {
			if code, e := Objects(p, "g", o); e != api.OK || !obj.Same(code, steps(t, p, "g", o)) {
				t.Errorf("%v: Objects returns the error %d", o, int(e))
			}
			im, e := Image(p, "g", o)
			if more == 0 && (e != api.OK || memories(im) != api.MaxMemory) || more == 1 && (e != api.ErrLimit || !empty(im)) {
				t.Errorf("%v: the image has %d routines; the error is %d", o, len(im.Routines), int(e))
			}
			expectSteps(t, p, "f", o)
			expectSteps(t, p, "h", o)
		}
	}
	p := read(t, node("f", "a")+"node g(a: int) returns (x: int) let x = "+strings.Repeat("(0 fby a) + ", 20)+"1; tel ")
	g := p.Nodes[1]
	for k := range 16 {
		x := deepCopy(g.Eqs[0])
		x.Left[0] = "y" + strconv.Itoa(k)
		p.Nodes[1].Locals = append(p.Nodes[1].Locals, api.Decl{Name: x.Left[0], Type: api.TInt})
		p.Nodes[1].Eqs = append(p.Nodes[1].Eqs, x)
	}
	for _, name := range []string{"f", "g"} { // 257 equations and more
		expectError(t, "a large normal form", p, name, api.ErrLimit)
	}
	expectError(t, "a large normal form", p, "h", api.ErrName)
}

// TestSharedLimit is P30.4: an image that is too large without an option, and not with it.
func TestSharedLimit(t *testing.T) {
	p := read(t, chain("f", 255)+"node h(a: int) returns (x: int) let x = f(a) + (0 fby a) + (0 fby a); tel "+calls("g", "h", 64))
	for _, o := range all() {
		im, e := Image(p, "g", o)
		if o.Share != (e == api.OK) || e != api.OK && (e != api.ErrLimit || !empty(im)) || e == api.OK && memories(im) != api.MaxMemory {
			t.Errorf("%v: there are %d memories; the error is %d", o, memories(im), int(e))
		}
	}
}

// TestText is P30.3, and the errors of parse.Program.
func TestText(t *testing.T) {
	for _, s := range samples.Texts() {
		p := read(t, s)
		for _, o := range all() {
			for _, n := range p.Nodes {
				im, e := Text(s, n.Name, o)
				if want, _ := Image(p, n.Name, o); e != api.OK || !asm.Same(im, want) || len(im.Routines) == 0 {
					t.Errorf("%.60q..: Text for %s and %v returns %v and %d, want %v", s, n.Name, o, im, int(e), want)
				}
			}
			if im, e := Text(s, "none", o); e != api.ErrName || !empty(im) {
				t.Errorf("%.60q..: Text for none returns %v and %d", s, im, int(e))
			}
		}
	}
	for _, x := range []struct {
		s string
		e api.Errno
	}{
		{"node", api.ErrForm},
		{"node f() returns (x: int) let x = 1; tel node", api.ErrForm},
		{"node f() returns (x: int) let x = $; tel", api.ErrForm},
		{"node f() returns (x: E) let x = 1; tel", api.ErrName},
		{"node f() returns (x: int) let x = 32768; tel", api.ErrRange},
		{strings.Repeat(" ", api.MaxText+1), api.ErrLimit},
		{"node f() returns (x: int) let x = y; tel", api.ErrProgram},
	} {
		for _, name := range []string{"f", "g", ""} {
			if im, e := Text(x.s, name, Options{}); e != x.e || !empty(im) {
				t.Errorf("%.60q..: Text for %q returns %v and %d, want the error %d", x.s, name, im, int(e), int(x.e))
			}
		}
	}
}

// TestMemory is rule 4: results share no memory with each other.
func TestMemory(t *testing.T) {
	r := rand.New(rand.NewSource(2))
	for range 20 {
		p := samples.Source(r.Intn, 3, 0)
		name := p.Nodes[len(p.Nodes)-1].Name
		a, _ := Objects(p, name, Options{})
		b, _ := Objects(p, name, Options{})
		expectNewMemory(t, a, b)
		x, _ := Image(p, name, Options{})
		y, _ := Image(p, name, Options{})
		expectNewMemory(t, x, y)
		if !reflect.DeepEqual(a, b) || !reflect.DeepEqual(x, y) {
			t.Errorf("two results are different")
		}
	}
}
