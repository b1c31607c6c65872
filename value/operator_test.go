package value

import (
	"math"
	"slices"
	"testing"

	"synchrony/api"
)

// expectResult checks Result against P5.4.
func expectResult(t *testing.T, op int, types []int, want int, wantError api.Errno) {
	t.Helper()
	before := slices.Clone(types)
	if x, e := Result(op, types...); x != want || e != wantError || !slices.Equal(types, before) {
		t.Errorf("Result(%d, %v) = %d, %d, want %d, %d", op, before, x, int(e), want, int(wantError))
	}
}

// expectApply checks Apply against P5.5.
func expectApply(t *testing.T, op int, args []int, want int, wantError api.Errno) {
	t.Helper()
	before := slices.Clone(args)
	if v, e := Apply(op, args...); v != want || e != wantError || !slices.Equal(args, before) {
		t.Errorf("Apply(%d, %v) = %d, %d, want %d, %d", op, before, v, int(e), want, int(wantError))
	}
}

func TestResult(t *testing.T) {
	types := []int{math.MinInt, -1, 0, api.TBool, api.TInt, api.TEnum, api.TEnum + 1, 7, math.MaxInt}
	for _, o := range operators() {
		for _, l := range lists(types, o.operands) {
			right := false
			switch o.takes {
			case "bool":
				right = !slices.ContainsFunc(l, func(x int) bool { return x != api.TBool })
			case "int":
				right = !slices.ContainsFunc(l, func(x int) bool { return x != api.TInt })
			default:
				right = l[0] == l[1] && l[0] >= api.TBool
			}
			if right {
				expectResult(t, o.op, l, o.gives, api.OK)
			} else {
				expectResult(t, o.op, l, 0, api.ErrType)
			}
		}
	}
}

// TestResultErrors is P5.4: a wrong operator comes before a wrong number of types, and that before a wrong type.
func TestResultErrors(t *testing.T) {
	types := []int{-1, 0, api.TBool, api.TInt, api.TEnum}
	for n := range 4 {
		for _, l := range lists(types, n) {
			for _, op := range noOperators() {
				expectResult(t, op, l, 0, api.ErrArg)
			}
			for _, o := range operators() {
				if n != o.operands {
					expectResult(t, o.op, l, 0, api.ErrArity)
				}
			}
		}
	}
	expectResult(t, api.OpAdd, make([]int, 1000), 0, api.ErrArity)
}

func TestResultExamples(t *testing.T) {
	expectResult(t, api.OpEq, []int{7, 7}, api.TBool, api.OK)
	expectResult(t, api.OpAdd, []int{api.TInt, api.TBool}, 0, api.ErrType)
	expectResult(t, api.OpNe, []int{api.TBool, api.TBool}, api.TBool, api.OK)
	expectResult(t, api.OpNe, []int{0, 0}, 0, api.ErrType)
	expectResult(t, api.OpEq, []int{api.TEnum, api.TEnum + 1}, 0, api.ErrType)
	expectResult(t, api.OpLt, []int{api.TEnum, api.TEnum}, 0, api.ErrType)
	expectResult(t, api.OpNeg, []int{api.TBool}, 0, api.ErrType)
	expectResult(t, api.OpNot, []int{api.TInt}, 0, api.ErrType)
}

// fits reports whether an operator has a result for the operands.
func (o described) fits(args []int) bool {
	for _, v := range args {
		if o.takes == "bool" && v != 0 && v != 1 || o.takes == "int" && (v < -32768 || v > 32767) {
			return false
		}
	}
	return true
}

func TestApply(t *testing.T) {
	for _, o := range operators() {
		for _, l := range lists(samples(), o.operands) {
			if !o.fits(l) {
				expectApply(t, o.op, l, 0, api.ErrRange)
				continue
			}
			b := 0
			if o.operands == 2 {
				b = l[1]
			}
			expectApply(t, o.op, l, o.result(l[0], b), api.OK)
		}
	}
}

// TestApplyErrors is P5.5: a wrong operator comes before a wrong number of operands, and that before a wrong operand.
func TestApplyErrors(t *testing.T) {
	for n := range 4 {
		for _, l := range lists([]int{math.MinInt, -1, 0, 1, 2, 40000}, n) {
			for _, op := range noOperators() {
				expectApply(t, op, l, 0, api.ErrArg)
			}
			for _, o := range operators() {
				if n != o.operands {
					expectApply(t, o.op, l, 0, api.ErrArity)
				}
			}
		}
	}
	expectApply(t, api.OpEq, make([]int, 1000), 0, api.ErrArity)
}

func TestApplyExamples(t *testing.T) {
	for _, x := range []struct{ op, a, b, want int }{
		{api.OpAnd, 1, 1, 1}, {api.OpAnd, 0, 1, 0}, {api.OpOr, 1, 0, 1}, {api.OpOr, 1, 1, 1}, {api.OpOr, 0, 0, 0}, {api.OpXor, 1, 1, 0}, {api.OpXor, 0, 1, 1},
		{api.OpAdd, 32767, 1, -32768}, {api.OpSub, -32768, 1, 32767}, {api.OpMul, 300, 300, 24464},
		{api.OpDiv, -7, 2, -3}, {api.OpMod, -7, 2, -1}, {api.OpDiv, 7, 0, 0}, {api.OpMod, 7, 0, 7}, {api.OpDiv, -32768, -1, -32768}, {api.OpMod, -32768, -1, 0},
		{api.OpEq, 1 << 40, 1 << 40, 1}, {api.OpEq, 0, 65536, 0}, {api.OpNe, math.MinInt, math.MaxInt, 1}, {api.OpNe, -1, -1, 0},
		{api.OpLt, 3, 3, 0}, {api.OpLe, 3, 3, 1}, {api.OpGt, 3, 3, 0}, {api.OpGe, 3, 3, 1}, {api.OpLt, -32768, 32767, 1}, {api.OpGt, -1, 1, 0},
	} {
		expectApply(t, x.op, []int{x.a, x.b}, x.want, api.OK)
	}
	expectApply(t, api.OpNot, []int{0}, 1, api.OK)
	expectApply(t, api.OpNot, []int{1}, 0, api.OK)
	expectApply(t, api.OpNot, []int{2}, 0, api.ErrRange)
	expectApply(t, api.OpNeg, []int{-32768}, -32768, api.OK)
	expectApply(t, api.OpLt, []int{1, 40000}, 0, api.ErrRange)
	expectApply(t, api.OpAnd, []int{0, -1}, 0, api.ErrRange)
}

// lifted is Lift as P5.6 describes it.
func lifted(op int, cells []api.Cell) api.Cell {
	var values []int
	undefined := false
	for _, c := range cells {
		if c.Kind != api.Present && c.Kind != api.Undef {
			return api.Cell{}
		}
		undefined = undefined || c.Kind == api.Undef
		values = append(values, c.V)
	}
	v, e := Apply(op, values...)
	if undefined || e != api.OK {
		return api.Cell{Kind: api.Undef}
	}
	return api.Cell{Kind: api.Present, V: v}
}

// TestLift is P5.6, also for cells with kinds and values that no stream has.
func TestLift(t *testing.T) {
	var cells []api.Cell
	for _, kind := range []int{api.Absent, api.Present, api.Undef, 3, -1, math.MaxInt, math.MinInt} {
		for _, v := range []int{0, 1, 2, -7, -32768, 32767, 40000} {
			cells = append(cells, api.Cell{Kind: kind, V: v})
		}
	}
	for op := -1; op <= api.OpGe+2; op++ {
		expectLift(t, op, nil)
		for _, a := range cells {
			expectLift(t, op, []api.Cell{a})
			for _, b := range cells {
				expectLift(t, op, []api.Cell{a, b})
				expectLift(t, op, []api.Cell{a, b, cells[7]})
			}
		}
	}
}

func expectLift(t *testing.T, op int, cells []api.Cell) {
	t.Helper()
	before := slices.Clone(cells)
	if g, w := Lift(op, cells...), lifted(op, cells); g != w || !slices.Equal(cells, before) {
		t.Errorf("Lift(%d, %v) = %v, want %v", op, before, g, w)
	}
}

func TestLiftExamples(t *testing.T) {
	absent, undefined, two := api.Cell{}, api.Cell{Kind: api.Undef}, api.Cell{Kind: api.Present, V: 2}
	for _, x := range []struct {
		op    int
		cells []api.Cell
		want  api.Cell
	}{
		{api.OpAdd, []api.Cell{two, two}, api.Cell{Kind: api.Present, V: 4}},
		{api.OpEq, []api.Cell{two, two}, api.Cell{Kind: api.Present, V: 1}},
		{api.OpGt, []api.Cell{two, two}, api.Cell{Kind: api.Present, V: 0}},
		{api.OpAdd, []api.Cell{two, undefined}, undefined},
		{api.OpAdd, []api.Cell{undefined, two}, undefined},
		{api.OpAnd, []api.Cell{{Kind: api.Present}, undefined}, undefined},
		{api.OpMul, []api.Cell{{Kind: api.Present}, undefined}, undefined},
		{api.OpAdd, []api.Cell{absent, undefined}, absent},
		{api.OpAdd, []api.Cell{undefined, absent}, absent},
		{api.OpAdd, []api.Cell{two, absent}, absent},
		{api.OpAdd, []api.Cell{two, {Kind: 3, V: 5}}, absent},
		{api.OpNot, []api.Cell{two}, undefined},
		{api.OpNot, []api.Cell{{Kind: api.Undef, V: 1}}, undefined},
		{api.OpAdd, []api.Cell{two}, undefined},
		{api.OpAdd, nil, undefined},
		{0, []api.Cell{two}, undefined},
		{0, []api.Cell{two, absent, two}, absent},
	} {
		if g := Lift(x.op, x.cells...); g != x.want {
			t.Errorf("Lift(%d, %v) = %v, want %v", x.op, x.cells, g, x.want)
		}
	}
}

// TestApplyHasTheTypeOfResult is P5.7.
func TestApplyHasTheTypeOfResult(t *testing.T) {
	enums := enumsOf()
	types := []int{api.TBool, api.TInt, api.TEnum, api.TEnum + 1, api.TEnum + 2}
	for op := range api.OpGe + 2 {
		for n := range 3 {
			for _, l := range lists(types, n) {
				x, e := Result(op, l...)
				if e != api.OK {
					continue
				}
				for _, args := range lists(samples(), n) {
					if !haveTypes(enums, l, args) {
						continue
					}
					if v, e := Apply(op, args...); e != api.OK || !Has(enums, x, v) {
						t.Errorf("Apply(%d, %v) = %d, %d is not of the type %d", op, args, v, int(e), x)
					}
				}
			}
		}
	}
}

func haveTypes(enums []api.Enum, types, args []int) bool {
	for i, v := range args {
		if !Has(enums, types[i], v) {
			return false
		}
	}
	return true
}
