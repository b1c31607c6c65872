package asm

import (
	"cmp"
	"math/rand"
	"reflect"
	"slices"
	"testing"

	"synchrony/api"
	"synchrony/clone"
	"synchrony/samples"
)

func instr(op int, fields ...int) api.Instr {
	l := append(fields, 0, 0, 0, 0)
	return api.Instr{Op: op, A: l[0], B: l[1], C: l[2], D: l[3]}
}

// all is an image in which there is everything.
func all() api.Image {
	one := api.Routine{Name: "one", In: []int{api.TBool, api.TInt}, Out: []int{api.TEnum + 1}, Regs: 4, Init: []int{0, 7}}
	one.Code = []api.Instr{instr(api.IRead, 3, 1), instr(api.IApply, 2, 0, 1, api.OpXor), instr(api.IWrite, 0, 2), instr(api.IUnary, 2, 3, api.OpNeg)}
	none := api.Routine{Name: "none"}
	main := api.Routine{Name: "Main_3", In: []int{api.TInt, api.TEnum}, Out: []int{api.TInt}, Regs: 6, Init: []int{api.MinInt, api.MaxInt, -1}}
	main.Code = []api.Instr{
		instr(api.ILoad, 5, api.MinInt), instr(api.IMove, 2, 0), instr(api.IZero, 5, 4), instr(api.IJump, 0, 9), instr(api.ICall, 0, 1, 4, 5),
		instr(api.IReset, 0, 0), instr(api.IReset, 1, 3), instr(api.ICall, 1, 3, 6, 6), instr(api.IUnary, 0, 0, api.OpNot), instr(api.IApply, 0, 5, 4, api.OpGe),
	}
	return api.Image{Enums: []int{1, 16, 3}, Routines: []api.Routine{one, none, main}}
}

func pick[T any](r *rand.Rand, l ...T) T { return l[r.Intn(len(l))] }

// someImage returns an image that is right.
func someImage(r *rand.Rand) api.Image { return samples.Image(r.Intn, 10) }

// places returns where all numbers and names in v are.
func places(v reflect.Value) []reflect.Value {
	var l []reflect.Value
	switch v.Kind() {
	case reflect.Struct:
		for i := range v.NumField() {
			l = append(l, places(v.Field(i))...)
		}
	case reflect.Slice:
		l = append(l, v)
		for i := range v.Len() {
			l = append(l, places(v.Index(i))...)
		}
	default:
		l = append(l, v)
	}
	return l
}

// expectNewMemory checks that no two lists of the argument and the result share memory.
func expectNewMemory(t *testing.T, argument, result any) {
	t.Helper()
	type extent struct{ from, to uintptr }
	var l []extent
	for _, x := range []any{argument, result} {
		for _, v := range places(reflect.ValueOf(x)) {
			if v.Kind() == reflect.Slice && v.Cap() > 0 {
				l = append(l, extent{v.Pointer(), v.Pointer() + uintptr(v.Cap())*v.Type().Elem().Size()})
			}
		}
	}
	slices.SortFunc(l, func(a, b extent) int { return cmp.Compare(a.from, b.from) })
	for i := 1; i < len(l); i++ {
		if l[i].from < l[i-1].to {
			t.Errorf("lists share memory")
			return
		}
	}
}

// spoiled changes some numbers, names and lists of an image.
func spoiled(r *rand.Rand, im api.Image) api.Image {
	im = clone.Image(im)
	for range 1 + r.Intn(2) {
		switch v := pick(r, places(reflect.ValueOf(&im).Elem())...); v.Kind() {
		case reflect.Int:
			v.SetInt(pick(r, v.Int()+1, v.Int()-1, -1, 0, int64(r.Intn(20)), int64(pick(r, numbers()...))))
		case reflect.String:
			v.SetString(pick(r, "", "a b", "f\n", "\u00e9", "a-b", "x_1", "1234567890123456789012345678901234567890", "12345678901234567890123456789012345678901"))
		case reflect.Slice:
			if v.Len() == 0 || r.Intn(2) == 0 {
				v.Set(reflect.Append(v, reflect.New(v.Type().Elem()).Elem()))
			} else {
				v.Set(v.Slice(0, v.Len()-1))
			}
		}
	}
	return im
}

// numbers returns some at the bounds of types and limits.
func numbers() []int {
	l := []int{-1 << 63, -1<<63 + 1, 1<<63 - 1, -1 << 31, 1<<31 - 1}
	for _, v := range []int{api.MinInt, api.MaxInt, api.MaxTags, api.MaxCode, api.MaxMemory} {
		l = append(l, v-1, v, v+1)
	}
	return l
}
