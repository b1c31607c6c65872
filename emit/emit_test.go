package emit

import (
	"math/rand"
	"slices"
	"strconv"
	"strings"
	"testing"

	"synchrony/api"
	"synchrony/asm"
	"synchrony/clone"
	"synchrony/obj"
	"synchrony/samples"
)

// expectImage checks the image of object code with the reference, and returns it.
func expectImage(t *testing.T, o api.Objects) api.Image {
	t.Helper()
	before := clone.Objects(o)
	im, e := Program(o)
	if want := parsed(t, refText(o)); e != api.OK || !asm.Same(im, want) {
		t.Fatalf("the image of %v is\n%s\nwant\n%s\nthe error is %d", o, text(im), text(want), int(e))
	}
	if !obj.Same(o, before) {
		t.Errorf("the argument %v has changed", before)
	}
	expectNewMemory(t, o, im)
	return im
}

// classes returns the classes for the tables: g has two memories, h two instances of g, and none has nothing at all.
func classes() []api.Class {
	g := api.Class{Name: "g", In: decls("a"), Out: decls("x"), Mems: mems("m n"), Step: seq(set("x", v("a")))}
	h := api.Class{Name: "h", In: decls("C a"), Out: decls("x Y"), Mems: mems("m"), Insts: insts("i:g k:g"), Step: seq(set("x", v("a")), set("Y", v("C")))}
	return []api.Class{g, h, {Name: "none"}}
}

// TestCode is the code of each kind of expression and statement, in a class with the inputs A 0, E 1, a 2, b 3, the outputs x 4, Y 5, the locals p 6, q 7, Z 8, so that T is 9, and the memories m, N; the instances are i (2 to 3), k (4 to 8), l (9), n (9 to 10).
func TestCode(t *testing.T) {
	for _, x := range []struct {
		what string
		step []api.Stmt
		code string
		regs int
	}{
		{"a constant", seq(set("p", number(-7))), "load 6 -7", 9},
		{"the first input", seq(set("Z", v("A"))), "move 8 0", 9},
		{"a local", seq(set("p", v("a")), set("q", v("p"))), "move 6 2/move 7 6", 9},
		{"memories", seq(set("p", state("m")), set("Z", state("N"))), "read 6 0/read 8 1", 9},
		{"an operator with one operand", seq(set("p", op(api.OpNeg, v("b"))), set("Z", op(api.OpNot, op(api.OpNot, v("A"))))), "unary 6 3 2/unary 9 0 1/unary 8 9 1", 10},
		{"an operator with two operands", seq(set("p", op(api.OpMul, v("b"), v("a")))), "apply 6 3 2 8", 9},
		{"an operand in the first place", seq(set("p", op(api.OpSub, number(5), v("a")))), "load 9 5/apply 6 9 2 7", 10},
		{"an operand in the second place", seq(set("p", op(api.OpSub, v("a"), state("m")))), "read 9 0/apply 6 2 9 7", 10},
		{"two operands", seq(set("p", op(api.OpDiv, number(1), number(2)))), "load 9 1/load 10 2/apply 6 9 10 9", 11},
		{"operands of operands", seq(set("p", op(api.OpAdd, op(api.OpMul, number(1), number(2)), op(api.OpMul, number(3), number(4))))),
			"load 10 1/load 11 2/apply 9 10 11 8/load 11 3/load 12 4/apply 10 11 12 8/apply 6 9 10 6", 13},
		{"if", seq(set("p", either(v("A"), v("a"), number(0)))), "zero 0 3/move 6 2/jump 4/load 6 0", 9},
		{"if with a condition", seq(set("p", either(op(api.OpNot, v("A")), op(api.OpNeg, number(3)), op(api.OpNeg, number(4))))),
			"unary 9 0 1/zero 9 5/load 10 3/unary 6 10 2/jump 7/load 10 4/unary 6 10 2", 11},
		{"if in if", seq(set("p", either(either(v("A"), state("N"), v("A")), either(v("A"), number(1), number(2)), number(3)))),
			"zero 0 3/read 9 1/jump 4/move 9 0/zero 9 10/zero 0 8/load 6 1/jump 9/load 6 2/jump 11/load 6 3", 10},
		{"if as an operand", seq(set("p", op(api.OpAdd, v("a"), either(v("A"), v("a"), v("b"))))), "zero 0 3/move 9 2/jump 4/move 9 3/apply 6 2 9 6", 10},
		{"stores", seq(store("N", v("A")), store("m", number(3)), store("m", op(api.OpNeg, number(4)))), "write 1 0/load 9 3/write 0 9/load 10 4/unary 9 10 2/write 0 9", 11},
		{"a case by a bool", seq(by("A", 1, seq(set("p", number(1))), seq(set("p", number(2))))), "load 9 0/apply 10 0 9 11/zero 10 5/load 6 1/jump 6/load 6 2", 11},
		{"a case by an enumeration", seq(by("E", 3, seq(set("p", number(1)), set("q", v("p"))), nil, seq(store("m", v("a"))))),
			"load 9 0/apply 10 1 9 11/zero 10 6/load 6 1/move 7 6/jump 11/load 9 1/apply 10 1 9 11/zero 10 10/jump 11/write 0 2", 11},
		{"a case in a case", seq(by("A", 1, seq(by("A", 1, nil, nil)), nil)), "load 9 0/apply 10 0 9 11/zero 10 8/load 9 0/apply 10 0 9 11/zero 10 7/jump 7/jump 8", 11},
		{"a case in the last branch", seq(by("A", 1, nil, seq(by("E", 3, nil, nil, nil)))), "load 9 0/apply 10 0 9 11/zero 10 4/jump 12/load 9 0/apply 10 1 9 11/zero 10 8/jump 12/load 9 1/apply 10 1 9 11/zero 10 12/jump 12", 11},
		{"a call", seq(call("i", "p", v("a"))), "move 9 2/call 0 2 9 10/move 6 10", 11},
		{"a call with more", seq(call("k", "p Z", op(api.OpNot, op(api.OpNot, v("A"))), number(4))), "unary 11 0 1/unary 9 11 1/load 10 4/call 1 4 9 11/move 6 11/move 8 12", 13},
		{"a call with nothing", seq(call("l", "")), "call 2 9 9 9", 9},
		{"resets", seq(reset("i"), reset("k"), reset("l"), reset("n")), "reset 0 2/reset 1 4/reset 2 9/reset 0 9", 9},
	} {
		c := api.Class{Name: "f", In: decls("A E a b"), Out: decls("x Y"), Locals: decls("p q Z"), Mems: mems("m N"), Insts: insts("i:g k:h l:none n:g")}
		c.Step = append(x.step, set("x", v("a")), set("Y", v("A")))
		o := objects(append(classes(), c)...)
		im := expectImage(t, o)
		r := im.Routines[3]
		lines := strings.Split(x.code+"/move 4 2/move 5 0", "/")
		want := parsed(t, "enums 3 1 5\nroutine g\nin 2\nout 2\nregs 2\ninit 0 1\nend\n"+
			"routine h\nin 1 2\nout 2 1\nregs 4\ninit 0 1 0 1 0\nend\nroutine none\nin\nout\nregs 0\ninit\nend\n"+
			"routine f\nin 1 3 2 2\nout 2 1\nregs "+strconv.Itoa(x.regs)+"\ninit 0 1 0 1 0 0 1 0 1 0 1\n"+strings.Join(lines, "\n")+"\nend\n").Routines[3]
		if r.Name != "f" || !slices.Equal(r.In, want.In) || !slices.Equal(r.Out, want.Out) || r.Regs != x.regs || !slices.Equal(r.Init, want.Init) || !slices.Equal(r.Code, want.Code) {
			t.Errorf("%s: the image is\n%s", x.what, text(im))
		}
		if !slices.Equal(im.Enums, []int{3, 1, 5}) || len(im.Routines) != 4 {
			t.Errorf("%s: the image is\n%s", x.what, text(im))
		}
	}
}

// TestExamples is the examples of the chapter.
func TestExamples(t *testing.T) {
	c := api.Class{Name: "f", In: decls("a"), Out: decls("x"), Step: seq(set("x", op(api.OpAdd, v("a"), number(1))))}
	if im := expectImage(t, objects(c)); !asm.Same(im, parsed(t, "enums 3 1 5\nroutine f\nin 2\nout 2\nregs 3\ninit\nload 2 1\napply 1 0 2 6\nend\n")) {
		t.Errorf("the image is\n%s", text(im))
	}
	c = api.Class{Name: "f", In: decls("F"), Out: decls("x"), Step: seq(by("F", api.TEnum+1, seq(set("x", number(1)))))}
	if im := expectImage(t, objects(c)); !asm.Same(im, parsed(t, "enums 3 1 5\nroutine f\nin 4\nout 2\nregs 2\ninit\nload 1 1\nend\n")) {
		t.Errorf("a case with one branch: the image is\n%s", text(im))
	}
	g := api.Class{Name: "g", Mems: mems("m n o")}
	o := objects(g, api.Class{Name: "h", Mems: mems("m n"), Insts: insts("i:g k:g")})
	if n, e := Size(o, "h"); n != 8 || e != api.OK {
		t.Errorf("the size is %d; the error is %d", n, int(e))
	}
	if n, e := Offset(o, "h", "k"); n != 5 || e != api.OK {
		t.Errorf("the offset is %d; the error is %d", n, int(e))
	}
}

// expectLayout is P27.3 and P27.4.
func expectLayout(t *testing.T, o api.Objects, im api.Image) {
	t.Helper()
	for i, c := range o.Classes {
		size, e := Size(o, c.Name)
		if e != api.OK || size != len(im.Routines[i].Init) {
			t.Errorf("the size of %s is %d, want %d; the error is %d", c.Name, size, len(im.Routines[i].Init), int(e))
		}
		end := len(c.Mems)
		for _, inst := range c.Insts {
			offset, e := Offset(o, c.Name, inst.Name)
			if e != api.OK || offset != end {
				t.Errorf("the offset of %s in %s is %d, want %d; the error is %d", inst.Name, c.Name, offset, end, int(e))
			}
			inner, _ := Size(o, inst.Class)
			end += inner
		}
		if end != size {
			t.Errorf("the instances of %s end at %d, its size is %d", c.Name, end, size)
		}
	}
}

// TestProgram is P27.1, P27.3, P27.4 and P27.5, and the definitions of the chapter.
func TestProgram(t *testing.T) {
	r := rand.New(rand.NewSource(1))
	for range 300 {
		o := samples.Objects(r.Intn)
		im := expectImage(t, o)
		if e := asm.Check(im); e != api.OK {
			t.Errorf("asm.Check returns %d", int(e))
		}
		expectLayout(t, o, im)
		for n := 1; n < len(o.Classes); n++ {
			prefix := expectImage(t, api.Objects{Enums: o.Enums, Classes: o.Classes[:n]})
			if first := (api.Image{Enums: im.Enums, Routines: im.Routines[:n]}); !asm.Same(prefix, first) {
				t.Errorf("the image of the first classes is\n%s\nwant\n%s", text(prefix), text(first))
			}
		}
		if t.Failed() {
			t.Fatalf("the object code is %v", o)
		}
	}
}

// wide returns a class with so many memories.
func wide(name string, size int) api.Class {
	c := api.Class{Name: name}
	for i := range size {
		c.Mems = append(c.Mems, api.Mem{Name: "m" + strconv.Itoa(i), Type: api.TBool, Init: i % 2})
	}
	return c
}

// double returns a class with two instances of another one.
func double(name, of string) api.Class {
	return api.Class{Name: name, Insts: insts("i:" + of + " k:" + of)}
}

// chain returns classes, each of which has two instances of the one before; the first one has so many memories.
func chain(count, size int) []api.Class {
	l := []api.Class{wide("c0", size)}
	for i := 1; i < count; i++ {
		l = append(l, double("c"+strconv.Itoa(i), l[i-1].Name))
	}
	return l
}

// assigned returns a class whose step is of the same length as the number says: it has so many instructions.
func assigned(length int) api.Class {
	c := api.Class{Name: "f", Mems: mems("m"), In: decls("a")}
	for range length {
		c.Step = append(c.Step, store("m", v("a")))
	}
	return c
}

// local returns a class with so many variables.
func local(count int) api.Class {
	c := api.Class{Name: "f"}
	for i := range count {
		c.Locals = append(c.Locals, api.Decl{Name: "v" + strconv.Itoa(i), Type: api.TBool})
	}
	return c
}

func ports(count int) []api.Decl { return local(count).Locals }

// expectError checks that there is no image, and why.
func expectError(t *testing.T, what string, o api.Objects, want api.Errno) {
	t.Helper()
	if im, e := Program(o); e != want || !asm.Same(im, api.Image{}) {
		t.Errorf("%s: the error is %d, want %d; the image has %d routines", what, int(e), int(want), len(im.Routines))
	}
}

// TestErrors is the errors of Program, in their order.
func TestErrors(t *testing.T) {
	named := func(names ...string) []api.Class {
		var l []api.Class
		for _, name := range names {
			l = append(l, api.Class{Name: name})
		}
		return l
	}
	with := func(l []api.Class, more ...api.Class) api.Objects { return objects(slices.Concat(l, more)...) }
	var many []string
	for i := range api.MaxNodes + 1 {
		many = append(many, "f"+strconv.Itoa(i))
	}
	wrong := api.Class{Name: "w", Out: decls("x")}
	outputs := api.Class{Name: "f", Out: ports(65)}
	for _, d := range outputs.Out {
		outputs.Step = append(outputs.Step, set(d.Name, constant(api.TBool, 1)))
	}
	fits := outputs
	fits.Out, fits.Step = fits.Out[:64], fits.Step[:64]
	for _, x := range []struct {
		what string
		o    api.Objects
		e    api.Errno
	}{
		{"nothing", api.Objects{}, api.ErrForm},
		{"no classes", objects(), api.ErrForm},
		{"one class", with(named("f")), api.OK},
		{"the most classes", with(named(many[1:]...)), api.OK},
		{"too many classes", with(named(many...)), api.ErrLimit},
		{"too many classes with wrong names", with(named("", "f g"), named(many...)...), api.ErrLimit},
		{"a name that is empty", with(named("")), api.ErrName},
		{"a name with another letter", with(named("f", "g'")), api.ErrName},
		{"the longest name", with(named(strings.Repeat("a", api.MaxName))), api.OK},
		{"a longer name", with(named(strings.Repeat("a", api.MaxName+1))), api.ErrName},
		{"wrong object code", with(named("f"), wrong), api.ErrOrder},
		{"no enumeration", api.Objects{Classes: []api.Class{{Name: "f", In: decls("F"), Step: seq(by("F", api.TEnum+1, nil))}}}, api.ErrType},
		{"wrong object code behind a wrong name", with(named(""), wrong), api.ErrOrder},
		{"wrong object code behind too many memories", with(nil, wide("f", api.MaxMemory+1), wrong), api.ErrOrder},
		{"wrong object code behind too many classes", with(named(many...), wrong), api.ErrOrder},
		{"the same name twice", with(named("f", "f")), api.ErrTwice},
		{"the most memories", with(nil, wide("f", api.MaxMemory)), api.OK},
		{"too many memories", with(nil, wide("f", api.MaxMemory+1)), api.ErrLimit},
		{"too many memories behind a wrong name", with(named(""), wide("f", api.MaxMemory+1)), api.ErrLimit},
		{"too many memories before a class", with([]api.Class{wide("f", api.MaxMemory+1)}, api.Class{Name: "g"}), api.ErrLimit},
		{"the most memories of instances", with(chain(2, api.MaxMemory/2)), api.OK},
		{"too many memories of instances", with(chain(2, api.MaxMemory/2+1)), api.ErrLimit},
		{"a memory too many", with([]api.Class{wide("g", 1), wide("h", api.MaxMemory)}, api.Class{Name: "f", Insts: insts("i:h k:g")}), api.ErrLimit},
		{"a memory too many before", with([]api.Class{wide("g", api.MaxMemory)}, api.Class{Name: "f", Mems: mems("m"), Insts: insts("i:g")}), api.ErrLimit},
		{"the deepest instances", with(chain(15, 1)), api.OK},
		{"more memories than a number counts", with(chain(90, 1)), api.ErrLimit},
		{"instances without memories", with(chain(90, 0)), api.OK},
		{"the most inputs", with(nil, api.Class{Name: "f", In: ports(64)}), api.OK},
		{"too many inputs", with(nil, api.Class{Name: "f", In: ports(65)}), api.ErrLimit},
		{"the most outputs", with(nil, fits), api.OK},
		{"too many outputs", with(nil, outputs), api.ErrLimit},
		{"too many inputs behind a wrong name", with(named(""), api.Class{Name: "f", In: ports(65)}), api.ErrName},
		{"the most instructions", with(nil, assigned(api.MaxCode)), api.OK},
		{"too many instructions", with(nil, assigned(api.MaxCode+1)), api.ErrLimit},
		{"the most registers", with(nil, local(api.MaxCode)), api.OK},
		{"too many registers", with(nil, local(api.MaxCode+1)), api.ErrLimit},
		{"a wrong name behind too many registers", with([]api.Class{local(api.MaxCode + 1)}, named("")...), api.ErrLimit},
	} {
		if x.e != api.OK {
			expectError(t, x.what, x.o, x.e)
			continue
		}
		im, e := Program(x.o)
		if want, _, _ := asm.Parse(refText(x.o)); e != api.OK || !asm.Same(im, want) || asm.Check(im) != api.OK {
			t.Errorf("%s: the error is %d", x.what, int(e))
		}
	}
	// A call can be what needs a register too many.
	c := local(api.MaxCode - 1)
	c.Insts, c.Step = insts("i:g"), seq(call("i", "v0", v("v1")))
	c.Step = append(seq(set("v1", constant(api.TBool, 1))), c.Step...)
	g := api.Class{Name: "g", In: decls("A"), Out: decls("X"), Step: seq(set("X", v("A")))}
	expectError(t, "a result that has no register", objects(g, c), api.ErrLimit)
	c.Locals = c.Locals[1:]
	c.Step = seq(set("v2", constant(api.TBool, 1)), call("i", "v1", v("v2")))
	if im, e := Program(objects(g, c)); e != api.OK || im.Routines[1].Regs != api.MaxCode {
		t.Errorf("a result in the last register: the error is %d", int(e))
	}
}

// TestSize is Size and Offset: their errors in order, and their limits.
func TestSize(t *testing.T) {
	large := objects(append(chain(90, 3), wide("w", api.MaxMemory), api.Class{Name: "full", Mems: mems("m"), Insts: insts("i:w k:c0")}, api.Class{Name: "", Insts: insts("i:c1")})...)
	large.Classes[len(large.Classes)-1].Insts[0].Name = ""
	wrong := objects(wide("f", 3), api.Class{Name: "g", Insts: insts("i:h")})
	for _, x := range []struct {
		o           api.Objects
		class, inst string
		size        int
		sizeError   api.Errno
		offset      int
		offsetError api.Errno
	}{
		{large, "c0", "i", 3, api.OK, 0, api.ErrName},
		{large, "c1", "i", 6, api.OK, 0, api.OK},
		{large, "c1", "k", 6, api.OK, 3, api.OK},
		{large, "c1", "m0", 6, api.OK, 0, api.ErrName},
		{large, "c1", "", 6, api.OK, 0, api.ErrName},
		{large, "c12", "k", 3 << 12, api.OK, 3 << 11, api.OK},
		{large, "c13", "i", 0, api.ErrLimit, 0, api.ErrLimit},
		{large, "c13", "k", 0, api.ErrLimit, 0, api.ErrLimit},
		{large, "c13", "l", 0, api.ErrLimit, 0, api.ErrName},
		{large, "c89", "k", 0, api.ErrLimit, 0, api.ErrLimit},
		{large, "w", "m0", api.MaxMemory, api.OK, 0, api.ErrName},
		{large, "full", "i", 0, api.ErrLimit, 0, api.ErrLimit},
		{large, "", "", 6, api.OK, 0, api.OK},
		{large, "c", "i", 0, api.ErrName, 0, api.ErrName},
		{wrong, "f", "i", 0, api.ErrName, 0, api.ErrName},
		{objects(wide("f", 3), wide("f", 2)), "f", "i", 0, api.ErrTwice, 0, api.ErrTwice},
		{objects(wide("f", 3), wide("f", 2)), "h", "i", 0, api.ErrTwice, 0, api.ErrTwice},
		{api.Objects{}, "", "", 0, api.ErrName, 0, api.ErrName},
	} {
		before := clone.Objects(x.o)
		if n, e := Size(x.o, x.class); n != x.size || e != x.sizeError {
			t.Errorf("the size of %q is %d, want %d; the error is %d, want %d", x.class, n, x.size, int(e), int(x.sizeError))
		}
		if n, e := Offset(x.o, x.class, x.inst); n != x.offset || e != x.offsetError {
			t.Errorf("the offset of %q in %q is %d, want %d; the error is %d, want %d", x.inst, x.class, n, x.offset, int(e), int(x.offsetError))
		}
		if !obj.Same(x.o, before) {
			t.Errorf("the argument has changed")
		}
	}
}

// TestSizeAny is P27.3 where there are more classes than an image has.
func TestSizeAny(t *testing.T) {
	l := []api.Class{wide("c0", 1)}
	for i := 1; i < 5000; i++ {
		l = append(l, api.Class{Name: "c" + strconv.Itoa(i), Mems: mems("m"), Insts: insts("i:c" + strconv.Itoa(i-1))})
	}
	o := objects(l...)
	if n, e := Size(o, "c4999"); n != 5000 || e != api.OK {
		t.Errorf("the size is %d; the error is %d", n, int(e))
	}
	if n, e := Offset(o, "c4999", "i"); n != 1 || e != api.OK {
		t.Errorf("the offset is %d; the error is %d", n, int(e))
	}
	expectError(t, "many classes", o, api.ErrLimit)
	// The memories of all of them together would be a thousand million.
	l = append(chain(15, 1), l...)[:15]
	for i := range 1 << 16 {
		l = append(l, api.Class{Name: "d" + strconv.Itoa(i), Insts: insts("i:c14")})
	}
	expectError(t, "many large classes", objects(l...), api.ErrLimit)
}

// TestNesting is the section Terms of DOC.md: parts that are nested deeply.
func TestNesting(t *testing.T) {
	const depth = 1 << 16
	nested := func(depth int, f func(e api.Expr) api.Expr) api.Objects {
		e := v("a")
		for range depth {
			e = f(e)
		}
		return objects(api.Class{Name: "f", In: decls("A a"), Out: decls("x"), Step: seq(set("x", e))})
	}
	for _, x := range []struct {
		what string
		most int // instructions or registers for each level
		f    func(e api.Expr) api.Expr
	}{
		{"operators with one operand", 1, func(e api.Expr) api.Expr { return op(api.OpNeg, e) }},
		{"first operands", 1, func(e api.Expr) api.Expr { return op(api.OpAdd, e, v("a")) }},
		{"second operands", 1, func(e api.Expr) api.Expr { return op(api.OpAdd, v("a"), e) }},
		{"operands with registers", 3, func(e api.Expr) api.Expr { return op(api.OpAdd, number(1), e) }},
		{"conditions", 5, func(e api.Expr) api.Expr { return either(op(api.OpEq, e, v("a")), v("a"), v("a")) }},
		{"second arguments", 3, func(e api.Expr) api.Expr { return either(v("A"), e, v("a")) }},
		{"third arguments", 3, func(e api.Expr) api.Expr { return either(v("A"), v("a"), e) }},
	} {
		expectError(t, x.what, nested(depth-2, x.f), api.ErrLimit)
		expectImage(t, nested(api.MaxCode/x.most-2, x.f))
	}
	step := seq(store("m", v("a")))
	for i := range depth {
		step = seq(by("A", api.TBool, step, nil))
		if i%2 == 0 {
			slices.Reverse(step[0].Branches)
		}
		if i == 5000 {
			expectImage(t, objects(api.Class{Name: "f", In: decls("A a"), Mems: mems("m"), Step: step}))
		}
	}
	expectError(t, "cases", objects(api.Class{Name: "f", In: decls("A a"), Mems: mems("m"), Step: step}), api.ErrLimit)
}
