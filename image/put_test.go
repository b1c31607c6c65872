package image

import (
	"bytes"
	"hash/fnv"
	"math/rand"
	"slices"
	"strings"
	"testing"

	"synchrony/api"
	"synchrony/asm"
	"synchrony/clone"
	"synchrony/samples"
)

// TestSum is P29.1.
func TestSum(t *testing.T) {
	for s, want := range map[string]uint32{"": 2166136261, "a": 3826002220, "foobar": 0xbf9cf968, "\x00": 2166136261 * 16777619 % (1 << 32), "\xff": (2166136261 ^ 255) * 16777619 % (1 << 32)} {
		if b := []byte(s); Sum(b) != want || string(b) != s {
			t.Errorf("the sum of %q is %d, want %d", s, Sum(b), want)
		}
	}
	if Sum(nil) != 2166136261 {
		t.Errorf("the sum of nothing is %d", Sum(nil))
	}
	r := rand.New(rand.NewSource(1))
	for range 1000 {
		b := make([]byte, r.Intn(300))
		r.Read(b)
		h := fnv.New32a()
		h.Write(b)
		if Sum(b) != h.Sum32() {
			t.Fatalf("the sum of %v is %d, want %d", b, Sum(b), h.Sum32())
		}
	}
}

// expectPut checks P29.2 and P29.4 for an image that is right.
func expectPut(t *testing.T, im api.Image) {
	t.Helper()
	before := clone.Image(im)
	b, e := Put(im)
	if e != api.OK || !bytes.Equal(b, layoutOf(im)) {
		t.Fatalf("Put of %v returns %v and the error %d, want %v", im, b, int(e), layoutOf(im))
	}
	if !asm.Same(im, before) {
		t.Errorf("the image has changed")
	}
	expectNewMemory(t, im, b)
	expectGet(t, "the bytes of an image", b, im, api.OK)
	x, _ := Get(b)
	expectNewMemory(t, b, x)
	if again, e := Put(x); e != api.OK || !bytes.Equal(again, b) {
		t.Errorf("Put of Get returns %v and %d, want %v", again, int(e), b)
	}
}

// TestLayout is P29.2: the bytes of images, written by hand.
func TestLayout(t *testing.T) {
	for want, im := range map[string]api.Image{
		"SYN1" + "\x00\x00\x00\x00" + "\x01\x00\x00\x00" + "\x01\x00\x00\x00f" + strings.Repeat("\x00", 20): {Routines: []api.Routine{{Name: "f"}}},
		"SYN1" + "\x02\x00\x00\x00\x03\x00\x00\x00\x10\x00\x00\x00" + "\x02\x00\x00\x00" + // enumerations, routines
			"\x03\x00\x00\x00g_0" + "\x00\x00\x00\x00" + "\x01\x00\x00\x00\x04\x00\x00\x00" + "\x2c\x01\x00\x00" + "\x02\x00\x00\x00\xff\xff\xff\xff\x00\x80\xff\xff" + "\x00\x00\x00\x00" +
			"\x01\x00\x00\x00F" + "\x02\x00\x00\x00\x02\x00\x00\x00\x01\x00\x00\x00" + "\x00\x00\x00\x00" + "\x03\x00\x00\x00" + "\x02\x00\x00\x00\xff\x7f\x00\x00\x05\x00\x00\x00" + "\x02\x00\x00\x00" +
			"\x01\x00\x00\x00\x02\x00\x00\x00\xfe\xff\xff\xff\x00\x00\x00\x00\x00\x00\x00\x00" + "\x09\x00\x00\x00\x00\x00\x00\x00\x00\x00\x00\x00\x01\x00\x00\x00\x02\x00\x00\x00": {
			Enums: []int{3, 16},
			Routines: []api.Routine{
				{Name: "g_0", Out: []int{api.TEnum + 1}, Regs: 300, Init: []int{-1, api.MinInt}},
				{Name: "F", In: []int{api.TInt, api.TBool}, Regs: 3, Init: []int{api.MaxInt, 5}, Code: []api.Instr{{Op: api.ILoad, A: 2, B: -2}, {Op: api.ICall, C: 1, D: 2}}},
			},
		},
	} {
		b, e := Put(im)
		sum := Sum([]byte(want))
		want += string([]byte{byte(sum), byte(sum >> 8), byte(sum >> 16), byte(sum >> 24)})
		if e != api.OK || string(b) != want {
			t.Errorf("%v has the bytes\n%q and the error %d, want\n%q", im, b, int(e), want)
		}
		expectPut(t, im)
	}
	if b, _ := Put(api.Image{Routines: []api.Routine{{Name: "f"}}}); len(b) != 41 {
		t.Errorf("the example has %d bytes", len(b))
	}
	expectPut(t, all())
}

// TestPutErrors is P29.2: the errors of asm.Check.
func TestPutErrors(t *testing.T) {
	for e, change := range map[api.Errno]func(im *api.Image){
		api.ErrForm:  func(im *api.Image) { im.Routines[2].Code[0].C = 1 },
		api.ErrLimit: func(im *api.Image) { im.Enums = make([]int, api.MaxEnums+1) },
		api.ErrRange: func(im *api.Image) { im.Enums[0] = 1<<32 + 1 },
		api.ErrName:  func(im *api.Image) { im.Routines[0].Name = "a b" },
		api.ErrType:  func(im *api.Image) { im.Routines[0].In[0] = 0 },
		api.ErrArity: func(im *api.Image) { im.Routines[1].Regs = -1 },
	} {
		im := all()
		change(&im)
		if b, is := Put(im); is != e || len(b) > 0 || asm.Check(im) != e {
			t.Errorf("Put returns %v and %d, want the error %d", b, int(is), int(e))
		}
	}
	if b, e := Put(api.Image{}); e != api.ErrForm || len(b) > 0 {
		t.Errorf("Put of nothing returns %v and %d", b, int(e))
	}
}

// TestAny is P29.2 to P29.4 for random images.
func TestAny(t *testing.T) {
	r := rand.New(rand.NewSource(2))
	for range 2000 {
		expectPut(t, samples.Image(r.Intn, 20))
		if t.Failed() {
			return
		}
	}
}

// TestLargest is P29.4 for the greatest numbers of all parts.
func TestLargest(t *testing.T) {
	types := make([]int, api.MaxPorts)
	for i := range types {
		types[i] = api.TEnum + i%api.MaxEnums
	}
	x := api.Routine{Name: strings.Repeat("z", api.MaxName), In: types, Out: types, Regs: api.MaxCode, Init: make([]int, api.MaxMemory), Code: make([]api.Instr, api.MaxCode)}
	for i := range x.Init {
		x.Init[i] = api.MinInt + 4*i
	}
	for i := range x.Code {
		x.Code[i] = api.Instr{Op: api.IZero, A: api.MaxCode - 1, B: api.MaxCode}
	}
	im := api.Image{Routines: []api.Routine{x, x, x}}
	for range api.MaxEnums {
		im.Enums = append(im.Enums, api.MaxTags)
	}
	expectPut(t, clone.Image(im))
	im.Routines = slices.Repeat([]api.Routine{{Name: "f", Out: types[:1], Regs: 1}}, api.MaxNodes)
	expectPut(t, clone.Image(im))
}
