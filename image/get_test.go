package image

import (
	"bytes"
	"math/rand"
	"slices"
	"testing"

	"synchrony/api"
	"synchrony/asm"
	"synchrony/samples"
)

// TestChanged is P29.4: each change of a byte makes the sum wrong. So does a byte less at the end.
func TestChanged(t *testing.T) {
	for _, im := range []api.Image{all(), {Routines: []api.Routine{{Name: "f"}}}} {
		b, _ := Put(im)
		for at := range b {
			for change := range 255 {
				b[at]++
				if x, e := Get(b); e != api.ErrSum || !asm.Same(x, api.Image{}) {
					t.Fatalf("byte %d, increased by %d: Get returns %v and %d", at, change+1, x, int(e))
				}
			}
			b[at]++
		}
		expectGet(t, "the bytes", b, im, api.OK)
		expectError(t, "a byte less", b[:len(b)-1], api.ErrSum)
		expectError(t, "a byte more", append(slices.Clone(b), 0), api.ErrSum)
		expectError(t, "a byte less at the beginning", b[1:], api.ErrSum)
	}
}

// TestShort is P29.3: less than eight bytes, whatever they are.
func TestShort(t *testing.T) {
	b := layoutOf(all())
	for n := range 8 {
		expectError(t, n, b[:n], api.ErrEnd)
		expectError(t, n, make([]byte, n), api.ErrEnd)
		if n >= 4 {
			expectError(t, n, sealed([]byte("SYN1")[:n-4]), api.ErrEnd)
		}
	}
	expectError(t, "nothing", nil, api.ErrEnd)
	expectError(t, "eight bytes", b[:8], api.ErrSum)
	expectError(t, "eight zeros", make([]byte, 8), api.ErrSum)
	expectError(t, "eight bytes with their sum", sealed([]byte("SYN1")), api.ErrEnd)
	expectError(t, "eight other bytes with their sum", sealed([]byte("SYN2")), api.ErrForm)
}

// TestMark is P29.3: the first bytes, after the sum and before everything else.
func TestMark(t *testing.T) {
	body := refBody(all())
	for _, mark := range []string{"SYN0", "syn1", "XYN1", "SXN1", "SYX1", "1NYS", "\x00\x00\x00\x00"} {
		for _, rest := range [][]byte{body, body[:9], append(little(-1), body...), little(1, 99), nil} {
			b := sealed([]byte(mark), rest)
			expectError(t, mark, b, api.ErrForm)
			b[len(b)-1] ^= 1
			expectError(t, mark, b, api.ErrSum)
		}
	}
	expectError(t, "no mark", sealed(body), api.ErrForm)
}

// TestEnd is P29.3: bytes that end too early, and bytes that are left.
func TestEnd(t *testing.T) {
	body := refBody(all())
	mark := []byte("SYN1")
	for n := range body {
		expectError(t, n, sealed(mark, body[:n]), api.ErrEnd)
	}
	expectGet(t, "all bytes", sealed(mark, body), all(), api.OK)
	for n := range 9 {
		expectError(t, n, sealed(mark, body, make([]byte, n+1)), api.ErrForm)
		expectError(t, n, sealed(mark, body, body[:n+1]), api.ErrForm)
	}
	wrong := all()
	wrong.Routines[0].Name = ""
	expectError(t, "a wrong image", layoutOf(wrong), api.ErrName)
	expectError(t, "a wrong image, and a byte that is left", sealed(mark, refBody(wrong), []byte{0}), api.ErrForm)
}

// part is where a number of parts is in the body of an image: what is before it, a part, and what is behind the parts.
type part struct {
	what            string
	before, element []byte
	after           []byte
}

// parts are all numbers of elements, routines, bytes and instructions.
func parts() []part {
	f := slices.Concat(little(0, 1), named("f"))
	return []part{
		{"enumerations", nil, little(2), little(0)},
		{"routines", little(0), slices.Concat(named("f"), little(0, 0, 0, 0, 0)), nil},
		{"bytes of a name", little(0, 1), []byte("a"), little(0, 0, 0, 0, 0)},
		{"inputs", f, little(api.TInt), little(0, 0, 0, 0)},
		{"outputs", append(f, little(0)...), little(api.TInt), little(0, 0, 0)},
		{"memories", slices.Concat(f, little(0, 0, 0)), little(7), little(0)},
		{"instructions", slices.Concat(f, little(0, 0, 0, 0)), little(api.IJump, 0, 1<<16, 0, 0), nil},
	}
}

// TestCounts is P29.3: numbers of parts that are negative or too great, before the end of the bytes is.
func TestCounts(t *testing.T) {
	mark := []byte("SYN1")
	for _, x := range parts() {
		for n, e := range map[int]api.Errno{1: api.ErrEnd, 1 << 16: api.ErrEnd, 1<<16 + 1: api.ErrForm, 1<<31 - 1: api.ErrForm, 1 << 24: api.ErrForm, -1: api.ErrForm, -1 << 31: api.ErrForm, -1 << 16: api.ErrForm} {
			expectError(t, x.what, sealed(mark, x.before, little(n)), e)
			expectError(t, x.what, sealed(mark, x.before, little(n), x.element[:len(x.element)-1]), e)
			if e == api.ErrForm {
				expectError(t, x.what, sealed(mark, x.before, little(n), []byte{1, 2, 3}), e)
				expectError(t, x.what, sealed(mark, x.before, little(n), bytes.Repeat(x.element, 5), x.after), e)
			}
		}
		expectError(t, x.what, sealed(mark, x.before, little(1<<16), bytes.Repeat(x.element, 1<<16), x.after), limit(x.what))
		expectError(t, x.what, sealed(mark, x.before, little(1<<16), bytes.Repeat(x.element, 1<<16-1)), api.ErrEnd)
		expectError(t, x.what, sealed(mark, x.before, little(1<<16+1), bytes.Repeat(x.element, 1<<16+1), x.after), api.ErrForm)
	}
}

// limit returns the error of asm.Check for 2^16 parts.
func limit(what string) api.Errno {
	if what == "bytes of a name" {
		return api.ErrName
	}
	return api.ErrLimit
}

// TestNested is P29.3: the first error in the order of the layout.
func TestNested(t *testing.T) {
	mark, f := []byte("SYN1"), slices.Concat(named("f"), little(0, 0, 0, 0, 0))
	for _, x := range []struct {
		what string
		body []byte
		e    api.Errno
	}{
		{"an enumeration too little, then nothing", little(3, 1, 2), api.ErrEnd},
		{"a routine too little", slices.Concat(little(0, 2), f), api.ErrEnd},
		{"a wrong number in the second routine", slices.Concat(little(0, 3), f, little(-1)), api.ErrForm},
		{"the end before a wrong number", slices.Concat(little(0, 2), f, little(9, -1)), api.ErrEnd},
		{"many routines, and a wrong number", slices.Concat(little(0, 1<<16), f, little(1<<16+1)), api.ErrForm},
		{"many routines, and the end", slices.Concat(little(0, 1<<16), f), api.ErrEnd},
		{"a wrong name, and a wrong number", slices.Concat(little(0, 1), named(" "), little(-1)), api.ErrForm},
		{"a wrong name, and the end", slices.Concat(little(0, 1), named(" "), little(1)), api.ErrEnd},
		{"a wrong name, and bytes that are left", slices.Concat(little(0, 1), named(" "), little(0, 0, 0, 0, 0, 0)), api.ErrForm},
		{"a wrong name", slices.Concat(little(0, 1), named(" "), little(0, 0, 0, 0, 0)), api.ErrName},
		{"a name of other bytes", slices.Concat(little(0, 1), named("\xff\x00"), little(0, 0, 0, 0, 0)), api.ErrName},
		{"no routine", little(0, 0), api.ErrForm},
		{"wrong enumerations", slices.Concat(counted(0), little(1), f), api.ErrRange},
		{"negative registers", slices.Concat(little(0, 1), named("f"), little(0, 0, -1, 0, 0)), api.ErrArity},
		{"too many registers", slices.Concat(little(0, 1), named("f"), little(0, 0, 1<<31-1, 0, 0)), api.ErrLimit},
		{"a wrong type", slices.Concat(little(0, 1), named("f"), little(1, -1<<31, 0, 1, 0, 0)), api.ErrType},
		{"a wrong value", slices.Concat(little(0, 1), named("f"), little(0, 0, 0, 1, 1<<15, 0)), api.ErrRange},
		{"a wrong instruction", slices.Concat(little(0, 1), named("f"), little(0, 0, 1, 0, 1, 11, 0, 0, 0, 0)), api.ErrForm},
		{"a wrong register", slices.Concat(little(0, 1), named("f"), little(0, 0, 1, 0, 1, api.ILoad, 1, 0, 0, 0)), api.ErrRange},
	} {
		expectError(t, x.what, sealed(mark, x.body), x.e)
	}
}

// TestSpoiled is P29.3 for bytes in which anything can be wrong, except the sum.
func TestSpoiled(t *testing.T) {
	r := rand.New(rand.NewSource(3))
	errors := map[api.Errno]int{}
	for range 60000 {
		body := spoiled(r, refBody(samples.Image(r.Intn, 6)))
		b := sealed([]byte("SYN1"), body)
		want, e := refGet(b)
		errors[e]++
		expectGet(t, body, b, want, e)
		if im, is := Get(b); is == api.OK {
			expectNewMemory(t, b, im)
			if again, e := Put(im); e != api.OK || !bytes.Equal(again, b) {
				t.Errorf("Put of Get of %v returns %v and %d", b, again, int(e))
			}
		}
		if t.Failed() {
			return
		}
	}
	for _, e := range []api.Errno{api.OK, api.ErrEnd, api.ErrForm, api.ErrLimit, api.ErrName, api.ErrArity, api.ErrType, api.ErrRange} {
		if errors[e] < 20 {
			t.Errorf("the errors are %v", errors)
		}
	}
}

// TestNoise is P29.3 for any bytes.
func TestNoise(t *testing.T) {
	r := rand.New(rand.NewSource(4))
	for n := range 200 {
		b := make([]byte, n)
		r.Read(b)
		_, e := refGet(b)
		expectError(t, b, b, e)
		b = sealed([]byte("SYN1"), b)
		_, e = refGet(b)
		expectError(t, b, b, e)
	}
}
