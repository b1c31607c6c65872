package image

import (
	"bytes"
	"cmp"
	"encoding/binary"
	"hash/fnv"
	"math/rand"
	"reflect"
	"slices"
	"testing"

	"synchrony/api"
	"synchrony/asm"
)

// little is the encoding of numbers.
func little(numbers ...int) []byte {
	var b []byte
	for _, v := range numbers {
		b = binary.LittleEndian.AppendUint32(b, uint32(v))
	}
	return b
}

// counted is the encoding of a list of numbers.
func counted(numbers ...int) []byte { return little(append([]int{len(numbers)}, numbers...)...) }

// named is the encoding of a string.
func named(s string) []byte { return append(little(len(s)), s...) }

// sealed returns the parts with their checksum behind them.
func sealed(parts ...[]byte) []byte {
	b := bytes.Join(parts, nil)
	h := fnv.New32a()
	h.Write(b)
	return binary.LittleEndian.AppendUint32(b, h.Sum32())
}

// refBody is what is between the first and the last four bytes of the layout of an image.
func refBody(im api.Image) []byte {
	b := append(counted(im.Enums...), little(len(im.Routines))...)
	for _, r := range im.Routines {
		b = slices.Concat(b, named(r.Name), counted(r.In...), counted(r.Out...), little(r.Regs), counted(r.Init...), little(len(r.Code)))
		for _, i := range r.Code {
			b = append(b, little(i.Op, i.A, i.B, i.C, i.D)...)
		}
	}
	return b
}

func layoutOf(im api.Image) []byte { return sealed([]byte("SYN1"), refBody(im)) }

// refGet is P29.3 word by word: each number is asked for in the order of the layout.
func refGet(b []byte) (im api.Image, e api.Errno) {
	if len(b) < 8 {
		return api.Image{}, api.ErrEnd
	}
	head, body, tail := b[:4], bytes.NewReader(b[4:len(b)-4]), b[len(b)-4:]
	if !bytes.Equal(sealed(b[:len(b)-4])[len(b)-4:], tail) {
		return api.Image{}, api.ErrSum
	}
	if !bytes.Equal(head, []byte("SYN1")) {
		return api.Image{}, api.ErrForm
	}
	defer func() {
		if x, ok := recover().(api.Errno); ok {
			im, e = api.Image{}, x
		}
	}()
	number := func() int {
		var v int32
		if binary.Read(body, binary.LittleEndian, &v) != nil {
			panic(api.ErrEnd)
		}
		return int(v)
	}
	count := func() int {
		n := number()
		if n < 0 || n > 65536 {
			panic(api.ErrForm)
		}
		return n
	}
	numbers := func() []int {
		var l []int
		for range count() {
			l = append(l, number())
		}
		return l
	}
	im.Enums = numbers()
	for range count() {
		var r api.Routine
		name := make([]byte, count())
		if n, _ := body.Read(name); n < len(name) {
			panic(api.ErrEnd)
		}
		r.Name, r.In, r.Out, r.Regs, r.Init = string(name), numbers(), numbers(), number(), numbers()
		for range count() {
			i := api.Instr{Op: number()}
			i.A, i.B, i.C, i.D = number(), number(), number(), number()
			r.Code = append(r.Code, i)
		}
		im.Routines = append(im.Routines, r)
	}
	if body.Len() > 0 {
		panic(api.ErrForm)
	}
	if e := asm.Check(im); e != api.OK {
		panic(e)
	}
	return im, api.OK
}

// expectGet checks the result of Get.
func expectGet(t *testing.T, what any, b []byte, want api.Image, e api.Errno) {
	t.Helper()
	before := slices.Clone(b)
	im, is := Get(b)
	if is != e || !asm.Same(im, want) {
		t.Errorf("%v: Get returns %v and the error %d, want %v and %d", what, im, int(is), want, int(e))
	}
	if !bytes.Equal(b, before) {
		t.Errorf("%v: the bytes have changed", what)
	}
}

// expectError checks that Get returns an error.
func expectError(t *testing.T, what any, b []byte, e api.Errno) {
	t.Helper()
	expectGet(t, what, b, api.Image{}, e)
	if _, is := refGet(b); is != e {
		t.Errorf("%v: the reference returns the error %d, want %d", what, int(is), int(e))
	}
}

// all is an image in which there is everything.
func all() api.Image {
	one := api.Routine{Name: "one", In: []int{api.TBool, api.TInt}, Out: []int{api.TEnum + 1}, Regs: 4, Init: []int{0, 7}}
	one.Code = []api.Instr{{Op: api.IRead, A: 3, B: 1}, {Op: api.IApply, A: 2, B: 0, C: 1, D: api.OpXor}, {Op: api.IWrite, B: 2}}
	main := api.Routine{Name: "Main_3", Out: []int{api.TInt}, Regs: 300, Init: []int{api.MinInt, api.MaxInt, -1}}
	main.Code = []api.Instr{{Op: api.ILoad, A: 299, B: api.MinInt}, {Op: api.ILoad, B: 258}, {Op: api.IZero, A: 5, B: 5}, {Op: api.ICall, B: 1, C: 2, D: 3}, {Op: api.IReset, A: 1, B: 3}}
	return api.Image{Enums: []int{1, 16}, Routines: []api.Routine{one, {Name: "none"}, main}}
}

// extent is the memory of a list, to its capacity.
type extent struct{ from, to uintptr }

// memory returns the memory of all lists in v that have some.
func memory(v reflect.Value) []extent {
	var l []extent
	switch v.Kind() {
	case reflect.Struct:
		for i := range v.NumField() {
			l = append(l, memory(v.Field(i))...)
		}
	case reflect.Slice:
		if v.Cap() > 0 {
			l = append(l, extent{v.Pointer(), v.Pointer() + uintptr(v.Cap())*v.Type().Elem().Size()})
		}
		for i := range v.Len() {
			l = append(l, memory(v.Index(i))...)
		}
	}
	return l
}

// expectNewMemory checks that no two lists of the argument and the result share memory.
func expectNewMemory(t *testing.T, argument, result any) {
	t.Helper()
	l := slices.Concat(memory(reflect.ValueOf(argument)), memory(reflect.ValueOf(result)))
	slices.SortFunc(l, func(a, b extent) int { return cmp.Compare(a.from, b.from) })
	for i := 1; i < len(l); i++ {
		if l[i].from < l[i-1].to {
			t.Errorf("lists share memory")
			return
		}
	}
}

// spoiled returns bytes in which some are changed, removed or added, mostly in steps of four.
func spoiled(r *rand.Rand, b []byte) []byte {
	b = slices.Clone(b)
	for range 1 + r.Intn(2) {
		at := r.Intn(len(b)/4+1) * 4
		at = min(at+max(r.Intn(12)-8, 0), len(b))
		end := min(at+4, len(b))
		numbers := []int{0, 1, 2, 3, 5, -1, 1 << 16, 1<<16 + 1, -1 << 31, 1<<31 - 1, r.Intn(100)}
		number := little(numbers[r.Intn(len(numbers))])
		switch r.Intn(5) {
		case 0:
			b = slices.Replace(b, at, end, number...)
		case 1:
			b = slices.Insert(b, at, number...)
		case 2:
			b = slices.Delete(b, at, end)
		case 3:
			b = b[:at]
		case 4:
			if at < end {
				b[at] += byte(1 + r.Intn(3)) // the lowest byte of a number
			}
		}
	}
	return b
}
