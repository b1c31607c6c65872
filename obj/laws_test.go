package obj

import (
	"math/rand"
	"slices"
	"testing"

	"synchrony/api"
	"synchrony/value"
)

// refObject executes a class as the chapter says, with the variables, memories and instances by their names.
type refObject struct {
	t     *testing.T
	o     api.Objects
	class api.Class
	mems  map[string]int
	insts map[string]*refObject
}

func newRef(t *testing.T, o api.Objects, class string) *refObject {
	i := slices.IndexFunc(o.Classes, func(c api.Class) bool { return c.Name == class })
	x := &refObject{t: t, o: o, class: o.Classes[i]}
	x.reset()
	return x
}

func (x *refObject) reset() {
	x.mems, x.insts = map[string]int{}, map[string]*refObject{}
	for _, m := range x.class.Mems {
		x.mems[m.Name] = m.Init
	}
	for _, i := range x.class.Insts {
		x.insts[i.Name] = newRef(x.t, x.o, i.Class)
	}
}

func (x *refObject) memory() []int {
	var l []int
	for _, m := range x.class.Mems {
		l = append(l, x.mems[m.Name])
	}
	for _, i := range x.class.Insts {
		l = append(l, x.insts[i.Name].memory()...)
	}
	return l
}

func (x *refObject) step(in []int) []int {
	vars := map[string]int{}
	for i, d := range x.class.In {
		vars[d.Name] = in[i]
	}
	x.execute(x.class.Step, vars)
	var out []int
	for _, d := range x.class.Out {
		out = append(out, x.read(vars, d.Name))
	}
	return out
}

// read expects that the variable has a value.
func (x *refObject) read(vars map[string]int, name string) int {
	v, ok := vars[name]
	if !ok {
		x.t.Errorf("the variable %s is read before it is assigned in %v", name, x.class)
	}
	return v
}

// set expects that the variable has no value.
func (x *refObject) set(vars map[string]int, name string, v int) {
	if _, ok := vars[name]; ok {
		x.t.Errorf("the variable %s is assigned twice in %v", name, x.class)
	}
	vars[name] = v
}

func (x *refObject) execute(l []api.Stmt, vars map[string]int) {
	for _, s := range l {
		switch s.Kind {
		case api.SAssign:
			x.set(vars, s.Name, x.value(s.Right, vars))
		case api.SStore:
			x.mems[s.Name] = x.value(s.Right, vars)
		case api.SCase:
			x.execute(s.Branches[x.read(vars, s.Name)], vars)
		case api.SCall:
			var args []int
			for _, a := range s.Args {
				args = append(args, x.value(a, vars))
			}
			for i, v := range x.insts[s.Name].step(args) {
				x.set(vars, s.Outs[i], v)
			}
		case api.SReset:
			x.insts[s.Name].reset()
		}
	}
}

func (x *refObject) value(e api.Expr, vars map[string]int) int {
	var args []int
	for _, a := range e.Args {
		args = append(args, x.value(a, vars))
	}
	switch e.Kind {
	case api.EConst:
		return e.V
	case api.EVar:
		return x.read(vars, e.Name)
	case api.EState:
		return x.mems[e.Name]
	case api.EIf:
		return args[2-args[0]]
	}
	v, wrong := value.Apply(e.Op, args...)
	if wrong != api.OK {
		x.t.Errorf("the operator %d of %v returns the error %d", e.Op, args, int(wrong))
	}
	return v
}

func someInputs(r *rand.Rand, in []api.Decl) []int {
	var l []int
	for _, d := range in {
		l = append(l, []int{r.Intn(2), r.Intn(9) - 4, r.Intn(3)}[d.Type-api.TBool])
	}
	return l
}

// TestRandom is P22.1 to P22.4 and P22.6 for random classes.
func TestRandom(t *testing.T) {
	r := rand.New(rand.NewSource(1))
	refused, outputs, memories := map[api.Errno]int{}, 0, 0
	for range 250 {
		o := someObjects(t, r, refused)
		for _, c := range o.Classes {
			x, want := made(t, o, c.Name), newRef(t, o, c.Name)
			for range 12 {
				if r.Intn(6) == 0 {
					x.Reset()
					want.reset()
				}
				in := someInputs(r, c.In)
				out, e := x.Step(in)
				if ref := want.step(in); e != api.OK || !slices.Equal(out, ref) {
					t.Errorf("Step of %v returns %v, %d, want %v", in, out, int(e), ref)
				}
				if !slices.Equal(x.Memory(), want.memory()) {
					t.Errorf("the memory after %v is %v, want %v", in, x.Memory(), want.memory())
				}
				for i, d := range c.Out {
					if !value.Has(o.Enums, d.Type, out[i]) {
						t.Errorf("the output %s is %d", d.Name, out[i])
					}
				}
				outputs, memories = outputs+len(out), memories+len(x.Memory())
			}
			expectLoad(t, r, o, c, x)
			if t.Failed() {
				t.Fatalf("%s of %v", c.Name, o)
			}
		}
	}
	if outputs < 5000 || memories < 5000 {
		t.Errorf("there are only %d outputs and %d memories", outputs, memories)
	}
	for _, e := range []api.Errno{api.OK, api.ErrTwice, api.ErrOrder, api.ErrType} {
		if refused[e] < 1000 {
			t.Errorf("the errors are %v", refused)
		}
	}
}

// expectLoad is P22.6 for an object of a class.
func expectLoad(t *testing.T, r *rand.Rand, o api.Objects, c api.Class, x *Object) {
	t.Helper()
	m := x.Memory()
	other := made(t, o, c.Name)
	begin := other.Memory()
	if e := other.Load(m); e != api.OK || !slices.Equal(other.Memory(), m) {
		t.Errorf("after Load of %v the memory is %v; the error is %d", m, other.Memory(), int(e))
	}
	if e := x.Load(m); e != api.OK || !slices.Equal(x.Memory(), m) {
		t.Errorf("Load of its own memory returns %d", int(e))
	}
	for range 6 {
		in := someInputs(r, c.In)
		a, _ := x.Step(in)
		b, _ := other.Step(in)
		if !slices.Equal(a, b) || !slices.Equal(x.Memory(), other.Memory()) {
			t.Errorf("objects with equal memories have the outputs %v and %v, and the memories %v and %v", a, b, x.Memory(), other.Memory())
		}
	}
	x.Reset()
	e := other.Load(begin)
	in := someInputs(r, c.In)
	a, _ := x.Step(in)
	b, _ := other.Step(in)
	if e != api.OK || !slices.Equal(a, b) || !slices.Equal(x.Memory(), other.Memory()) {
		t.Errorf("Reset is not Load of the first memory")
	}
}
