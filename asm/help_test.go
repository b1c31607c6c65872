package asm

import (
	"cmp"
	"math/rand"
	"reflect"
	"slices"
	"testing"

	"synchrony/api"
)

func instr(op int, fields ...int) api.Instr {
	l := append(fields, 0, 0, 0, 0)
	return api.Instr{Op: op, A: l[0], B: l[1], C: l[2], D: l[3]}
}

// all is an image in which there is everything.
func all() api.Image {
	one := api.Routine{Name: "one", In: []int{api.TBool, api.TInt}, Out: []int{api.TEnum + 1}, Regs: 4, Init: []int{0, 7}}
	one.Code = []api.Instr{instr(api.IRead, 3, 1), instr(api.IApply, 2, 0, 1, api.OpXor), instr(api.IWrite, 0, 2), instr(api.IUnary, 2, 3, api.OpNeg)}
	none := api.Routine{Name: "none"}
	main := api.Routine{Name: "Main_3", In: []int{api.TInt, api.TEnum}, Out: []int{api.TInt}, Regs: 6, Init: []int{api.MinInt, api.MaxInt, -1}}
	main.Code = []api.Instr{
		instr(api.ILoad, 5, api.MinInt), instr(api.IMove, 2, 0), instr(api.IZero, 5, 4), instr(api.IJump, 0, 9), instr(api.ICall, 0, 1, 4, 5),
		instr(api.IReset, 0, 0), instr(api.IReset, 1, 3), instr(api.ICall, 1, 3, 6, 6), instr(api.IUnary, 0, 0, api.OpNot), instr(api.IApply, 0, 5, 4, api.OpGe),
	}
	return api.Image{Enums: []int{1, 16, 3}, Routines: []api.Routine{one, none, main}}
}

func pick[T any](r *rand.Rand, l ...T) T { return l[r.Intn(len(l))] }

// times returns up to n results.
func times[T any](r *rand.Rand, n int, f func() T) []T {
	var l []T
	for range r.Intn(n + 1) {
		l = append(l, f())
	}
	return l
}

// someImage returns an image that is right.
func someImage(r *rand.Rand) api.Image {
	im := api.Image{Enums: times(r, 3, func() int { return 1 + r.Intn(16) })}
	for k := range 1 + r.Intn(4) {
		typ := func() int { return 1 + r.Intn(2+len(im.Enums)) }
		x := api.Routine{Name: pick(r, "f", "F_1", "0", "_", "end"), In: times(r, 3, typ), Out: times(r, 3, typ)}
		x.Regs = len(x.In) + len(x.Out) + r.Intn(4)
		x.Init = times(r, 4, func() int { return r.Intn(1<<16) + api.MinInt })
		length := r.Intn(10)
		for at := range length {
			x.Code = append(x.Code, someInstr(r, im, k, x, at, length))
		}
		im.Routines = append(im.Routines, x)
	}
	return im
}

// someInstr returns an instruction of the routine x, which is the one with the number k.
func someInstr(r *rand.Rand, im api.Image, k int, x api.Routine, at, length int) api.Instr {
	register := func() int { return r.Intn(x.Regs) }
	target := at + 1 + r.Intn(length-at)
	call := func() int { return pick(r, api.ICall, api.IReset) }
	ops := []int{api.IJump}
	if x.Regs > 0 {
		ops = append(ops, api.ILoad, api.IMove, api.IUnary, api.IApply, api.IZero)
		if len(x.Init) > 0 {
			ops = append(ops, api.IRead, api.IWrite)
		}
	}
	if k > 0 {
		ops = append(ops, call(), call())
	}
	switch op := pick(r, ops...); op {
	case api.ILoad:
		return instr(op, register(), r.Intn(1<<16)+api.MinInt)
	case api.IMove:
		return instr(op, register(), register())
	case api.IRead:
		return instr(op, register(), r.Intn(len(x.Init)))
	case api.IWrite:
		return instr(op, r.Intn(len(x.Init)), register())
	case api.IUnary:
		return instr(op, register(), register(), 1+r.Intn(2))
	case api.IApply:
		return instr(op, register(), register(), register(), 3+r.Intn(14))
	case api.IZero:
		return instr(op, register(), target)
	case api.ICall, api.IReset:
		a := r.Intn(k)
		c := im.Routines[a]
		memories, ins, outs := len(x.Init)-len(c.Init), x.Regs-len(c.In), x.Regs-len(c.Out)
		if memories < 0 || ins < 0 || outs < 0 {
			break
		}
		if op == api.IReset {
			return instr(op, a, r.Intn(memories+1))
		}
		return instr(op, a, r.Intn(memories+1), r.Intn(ins+1), r.Intn(outs+1))
	}
	return instr(api.IJump, 0, target)
}

// places returns where all numbers and names in v are.
func places(v reflect.Value) []reflect.Value {
	var l []reflect.Value
	switch v.Kind() {
	case reflect.Struct:
		for i := range v.NumField() {
			l = append(l, places(v.Field(i))...)
		}
	case reflect.Slice:
		l = append(l, v)
		for i := range v.Len() {
			l = append(l, places(v.Index(i))...)
		}
	default:
		l = append(l, v)
	}
	return l
}

// expectNewMemory checks that no two lists of the argument and the result share memory.
func expectNewMemory(t *testing.T, argument, result any) {
	t.Helper()
	type extent struct{ from, to uintptr }
	var l []extent
	for _, x := range []any{argument, result} {
		for _, v := range places(reflect.ValueOf(x)) {
			if v.Kind() == reflect.Slice && v.Cap() > 0 {
				l = append(l, extent{v.Pointer(), v.Pointer() + uintptr(v.Cap())*v.Type().Elem().Size()})
			}
		}
	}
	slices.SortFunc(l, func(a, b extent) int { return cmp.Compare(a.from, b.from) })
	for i := 1; i < len(l); i++ {
		if l[i].from < l[i-1].to {
			t.Errorf("lists share memory")
			return
		}
	}
}

// deepCopy returns an image in memory of its own.
func deepCopy(im api.Image) api.Image {
	im.Enums = slices.Clone(im.Enums)
	im.Routines = slices.Clone(im.Routines)
	for k := range im.Routines {
		x := &im.Routines[k]
		x.In, x.Out, x.Init, x.Code = slices.Clone(x.In), slices.Clone(x.Out), slices.Clone(x.Init), slices.Clone(x.Code)
	}
	return im
}

// spoiled changes some numbers, names and lists of an image.
func spoiled(r *rand.Rand, im api.Image) api.Image {
	im = deepCopy(im)
	for range 1 + r.Intn(2) {
		switch v := pick(r, places(reflect.ValueOf(&im).Elem())...); v.Kind() {
		case reflect.Int:
			v.SetInt(pick(r, v.Int()+1, v.Int()-1, -1, 0, int64(r.Intn(20)), int64(pick(r, numbers()...))))
		case reflect.String:
			v.SetString(pick(r, "", "a b", "f\n", "\u00e9", "a-b", "x_1", "1234567890123456789012345678901234567890", "12345678901234567890123456789012345678901"))
		case reflect.Slice:
			if v.Len() == 0 || r.Intn(2) == 0 {
				v.Set(reflect.Append(v, reflect.New(v.Type().Elem()).Elem()))
			} else {
				v.Set(v.Slice(0, v.Len()-1))
			}
		}
	}
	return im
}

// numbers returns some at the bounds of types and limits.
func numbers() []int {
	l := []int{-1 << 63, -1<<63 + 1, 1<<63 - 1, -1 << 31, 1<<31 - 1}
	for _, v := range []int{api.MinInt, api.MaxInt, api.MaxTags, api.MaxCode, api.MaxMemory} {
		l = append(l, v-1, v, v+1)
	}
	return l
}
