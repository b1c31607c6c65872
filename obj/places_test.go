package obj

import (
	"strconv"
	"testing"

	"synchrony/api"
)

// TestExample has the examples of P22.1 in the chapter.
func TestExample(t *testing.T) {
	c := api.Class{Name: "f", In: decls("c:b"), Out: decls("o:i"), Locals: decls("x:i")}
	c.Step = seq(by("c", nil, seq(assign("x", number(5)))), by("c", seq(assign("o", number(0))), seq(assign("o", v("x")))))
	expectCheck(t, "example 1", objects(c), api.OK)
	c.Step = seq(by("c", nil, seq(assign("o", number(5)))))
	expectCheck(t, "an output in one branch", objects(c), api.ErrOrder)
	c.Step = seq(by("c", seq(assign("o", number(5))), seq(assign("o", number(6)))))
	expectCheck(t, "an output in both branches", objects(c), api.OK)
}

// TestPlaces is P22.1: where a variable is assigned before a statement, or can be assigned.
func TestPlaces(t *testing.T) {
	s := seq
	x, x2, y := assign("x", number(1)), call("i", "x", v("a")), assign("y", v("x"))
	p := assign("p", v("c"))
	half := by("b", s(by("c", s(x), nil)), s(x)) // not if b is 0 and c is 1
	checkSteps(t, []steps{
		step(api.OK, x, y), step(api.OK, x2, y), step(api.ErrOrder, y, x), step(api.ErrTwice, x, x2), step(api.ErrTwice, x2, x),
		// one case
		step(api.OK, by("b", s(x), s(x2)), y), step(api.ErrOrder, by("b", s(x), nil), y), step(api.ErrOrder, by("b", nil, s(x2)), y), step(api.ErrOrder, by("b", s(x), s(y))), step(api.OK, by("b", s(x, y), nil)), step(api.OK, x, by("b", s(y), nil)), step(api.ErrTwice, x, by("b", nil, s(x))), step(api.ErrTwice, by("b", nil, s(x)), x), step(api.ErrTwice, by("b", s(x), s(x)), x), step(api.ErrTwice, by("b", nil, s(x, x))),
		step(api.OK, byTag("e", s(x), s(x), s(x)), y), step(api.ErrOrder, byTag("e", s(x), nil, s(x)), y), step(api.ErrOrder, byTag("e", s(x), s(x), nil), y), step(api.ErrOrder, byTag("e", nil, s(x), s(x)), y), step(api.ErrTwice, byTag("e", nil, s(x), nil), x),
		// two cases by the same variable, and by others
		step(api.OK, by("b", nil, s(x)), by("b", nil, s(y))), step(api.ErrOrder, by("b", nil, s(x)), by("b", s(y), nil)), step(api.ErrOrder, by("b", nil, s(x)), by("c", nil, s(y))), step(api.OK, by("b", nil, s(x)), by("b", s(x), nil)), step(api.ErrTwice, by("b", nil, s(x)), by("b", nil, s(x))), step(api.ErrTwice, by("b", nil, s(x)), by("c", nil, s(x))),
		step(api.ErrOrder, by("b", nil, s(x)), by("b", s(x), nil), y), step(api.OK, by("b", nil, s(x)), by("b", s(x), nil), by("b", s(y), nil)), step(api.OK, by("b", nil, s(x)), by("b", s(x, y), s(y))), step(api.OK, byTag("e", s(x), s(x), nil), byTag("e", s(y), s(y), s(x, y))), step(api.ErrTwice, byTag("e", s(x), s(x), nil), byTag("e", nil, s(x), nil)),
		// cases in cases
		step(api.OK, by("b", s(by("c", s(x), s(x))), s(x)), y), step(api.ErrOrder, half, y), step(api.OK, half, by("b", nil, s(y))), step(api.ErrOrder, half, by("b", s(y), nil)), step(api.OK, half, by("c", s(y), nil)), step(api.ErrOrder, half, by("c", nil, s(y))), step(api.ErrTwice, half, by("c", nil, s(x))), step(api.OK, half, by("c", nil, s(by("b", s(x, y), s(y))))), step(api.OK, half, by("b", s(by("c", s(y), s(x, y))), s(y))),
		step(api.OK, by("b", nil, s(by("c", nil, s(x)))), by("c", nil, s(by("b", nil, s(y))))), step(api.ErrOrder, by("b", nil, s(by("c", nil, s(x)))), by("c", nil, s(y))), step(api.ErrOrder, by("b", nil, s(by("c", nil, s(x)))), by("b", nil, s(y))), step(api.OK, by("b", nil, s(by("c", s(x), s(x)))), by("d", s(by("b", nil, s(y))), nil)), step(api.ErrTwice, by("b", nil, s(by("c", nil, s(x)))), by("c", nil, s(x))), step(api.OK, by("b", nil, s(by("c", nil, s(x)))), by("c", s(x), s(by("b", s(x), nil)))),
		step(api.OK, by("b", s(by("c", s(x), nil), by("c", s(y), nil)), nil)), step(api.ErrOrder, by("b", s(by("c", s(x), nil), by("c", nil, s(y))), nil)), step(api.OK, by("b", s(x, by("c", s(y), nil)), nil)), step(api.ErrTwice, by("b", s(x, by("c", s(x), nil)), nil)), step(api.ErrTwice, by("b", s(by("c", s(x), nil), x), nil)), step(api.OK, by("b", s(by("c", s(x), s(by("d", s(x), s(x)))), y), nil)), step(api.ErrOrder, by("b", s(by("c", s(x), s(by("d", s(x), nil))), y), nil)),
		step(api.ErrOrder, by("b", s(by("c", s(x), s(x))), s(y))), step(api.OK, by("b", s(by("c", s(x), s(x))), nil), by("b", s(y), nil)), step(api.ErrTwice, by("b", s(by("c", s(x), s(x))), nil), by("c", s(x), nil)),
		// cases in cases by the same variable: the first branch counts
		step(api.OK, by("b", s(by("b", s(x), nil)), s(x)), y), step(api.ErrOrder, by("b", s(by("b", nil, s(x))), s(x)), y), step(api.OK, by("b", s(by("b", nil, s(x))), nil), by("b", s(x), nil)), step(api.OK, by("b", s(by("b", nil, s(x))), nil), x, y), step(api.ErrTwice, by("b", s(by("b", s(x), nil)), nil), by("b", s(x), nil)),
		step(api.ErrOrder, by("b", s(by("b", s(x), s(y))), nil)), step(api.OK, by("b", s(by("b", nil, s(x, y))), nil)), step(api.OK, by("b", s(x, by("b", nil, s(y))), nil)), step(api.ErrTwice, by("b", s(x, by("b", nil, s(x))), nil)), step(api.ErrTwice, by("b", s(by("b", nil, s(x, x))), nil)), step(api.OK, by("b", s(by("b", s(x), nil), y), nil)), step(api.ErrOrder, by("b", s(by("b", nil, s(x)), y), nil)), step(api.ErrTwice, by("b", s(by("b", s(x), nil), x), nil)), step(api.OK, by("b", s(by("b", nil, s(x)), x, y), nil)), step(api.OK, by("b", s(by("b", s(x), s(x))), nil), by("b", nil, s(x))),
		step(api.OK, by("b", s(x), nil), by("b", s(by("b", nil, s(y))), nil)), step(api.ErrOrder, by("b", nil, s(x)), by("b", s(by("b", nil, s(y))), nil)), step(api.OK, by("b", nil, s(x)), by("b", s(by("b", nil, s(x))), nil)), step(api.ErrTwice, by("b", s(x), nil), by("b", s(by("b", nil, s(x))), nil)), step(api.OK, by("b", s(by("c", s(by("b", nil, s(x))), s(x))), nil), by("c", s(x), nil)), step(api.OK, by("c", s(by("b", s(by("c", s(x), nil)), s(x))), s(x)), y),
		// variables of cases
		step(api.OK, p, by("p", s(x), s(x)), y), step(api.OK, by("b", s(p), nil), by("b", s(by("p", s(x), nil)), nil)), step(api.ErrOrder, by("b", s(p), nil), by("p", s(x), nil)), step(api.ErrOrder, by("b", s(p), nil), by("b", s(by("p", s(x), s(x))), nil), y), step(api.OK, by("b", s(p), nil), by("b", s(by("p", s(x), s(x))), s(x)), y), step(api.OK, by("b", s(p, by("p", s(x), nil)), s(p)), by("p", s(by("b", s(y), nil)), nil)),
		step(api.ErrTwice, p, by("p", s(p), nil)), step(api.OK, by("b", s(call("g", "x p", v("c"), v("e"))), s(p, x)), y, by("p", nil, nil)),
	})
}

// TestManyBranches is P22.1 for cases with sixteen branches, in one another.
func TestManyBranches(t *testing.T) {
	tags := make([]string, api.MaxTags)
	for i := range tags {
		tags[i] = "T" + strconv.Itoa(i)
	}
	x, y := assign("x", number(1)), assign("y", v("x"))
	for depth := range 5 {
		in, names := []api.Decl(nil), "pqrst"
		for i := range depth {
			in = append(in, api.Decl{Name: names[i : i+1], Type: api.TEnum})
		}
		full := seq(x)
		for i := range depth {
			s := byTag(names[i:i+1], make([][]api.Stmt, len(tags))...)
			for k := range s.Branches {
				s.Branches[k] = full
			}
			full = seq(s)
		}
		o := api.Objects{Enums: []api.Enum{{Tags: tags}}, Classes: []api.Class{{In: in, Out: decls("x:i y:i"), Step: append(full, y)}}}
		if e := Check(o); e != api.OK {
			t.Errorf("%d cases in one another: the error %d", depth, int(e))
		}
		o.Classes[0].Step = append(full, y, x)
		if e := Check(o); e != api.ErrTwice {
			t.Errorf("%d cases in one another: the error %d", depth, int(e))
		}
		if depth > 0 {
			o = deepCopy(o)
			c := &o.Classes[0]
			l := c.Step
			for range depth {
				branch := &l[0].Branches[7]
				if (*branch)[0].Kind == api.SAssign {
					*branch = nil
				}
				l = *branch
			}
			c.Step = c.Step[:2]
			if e := Check(o); e != api.ErrOrder {
				t.Errorf("%d cases, without one branch: the error %d", depth, int(e))
			}
		}
	}
}

// TestDeep is P22.1 for as many statements and expressions in one another as there can be, by one variable and by many.
func TestDeep(t *testing.T) {
	const depth = 1<<16 - 4
	c := api.Class{In: decls("b:b"), Out: decls("o:i"), Locals: decls("x:i")}
	for i := range depth {
		c.In = append(c.In, api.Decl{Name: "b" + strconv.Itoa(i), Type: api.TBool})
	}
	one, many := seq(assign("x", number(1))), seq(assign("x", number(1)))
	for i := range depth {
		one = seq(by("b", nil, one))
		many = seq(by("b"+strconv.Itoa(i), nil, many))
	}
	deep := number(1)
	for range depth {
		deep = op(api.OpNeg, deep)
	}
	last := assign("o", deep)
	for _, x := range []struct {
		step []api.Stmt
		e    api.Errno
	}{
		{append(one, last), api.OK},
		{append(many, last), api.OK},
		{append(one, assign("o", v("x"))), api.ErrOrder},
		{append(many, assign("o", v("x"))), api.ErrOrder},
		{append(many, last, assign("x", number(1))), api.ErrTwice},
		{append(one, last, by("b", nil, seq(assign("x", number(1))))), api.ErrTwice},
		{append(one, last, by("b", seq(assign("x", number(1))), nil)), api.OK},
		{append(one, by("b", seq(assign("o", number(1))), seq(assign("o", v("x"))))), api.OK},
	} {
		c.Step = x.step
		o := api.Objects{Classes: []api.Class{c}}
		if e := Check(o); e != x.e {
			t.Errorf("Check returns %d, want %d", int(e), int(x.e))
		}
		if x.e == api.OK {
			object := made(t, o, "")
			in := make([]int, len(c.In))
			for i := range in {
				in[i] = 1
			}
			if out, e := object.Step(in); e != api.OK || len(out) != 1 || out[0] != 1 {
				t.Errorf("Step returns %v, %d", out, int(e))
			}
			if !Same(o, o) {
				t.Error("the object code is not the same")
			}
		}
	}
}
