package image

import "synchrony/api"

const (
	mark  = "SYN1"  // what each layout begins with
	width = 4       // the bytes of a number
	most  = 1 << 16 // how many parts a list can have
)

// number returns the number that is encoded as the first bytes of b.
func number(b []byte) int {
	return int(int32(uint32(b[0]) | uint32(b[1])<<8 | uint32(b[2])<<16 | uint32(b[3])<<24))
}

func appendNumbers(b []byte, numbers ...int) []byte {
	for _, v := range numbers {
		x := uint32(v) // modulo 2^32
		b = append(b, byte(x), byte(x>>8), byte(x>>16), byte(x>>24))
	}
	return b
}

// appendList appends how many numbers there are, and the numbers.
func appendList(b []byte, numbers ...int) []byte {
	return appendNumbers(appendNumbers(b, len(numbers)), numbers...)
}

func appendImage(b []byte, im api.Image) []byte {
	b = appendList(b, im.Enums...)
	b = appendNumbers(b, len(im.Routines))
	for _, r := range im.Routines {
		b = appendRoutine(b, r)
	}
	return b
}

func appendRoutine(b []byte, r api.Routine) []byte {
	b = append(appendNumbers(b, len(r.Name)), r.Name...)
	b = appendList(b, r.In...)
	b = appendList(b, r.Out...)
	b = appendNumbers(b, r.Regs)
	b = appendList(b, r.Init...)
	b = appendNumbers(b, len(r.Code))
	for _, i := range r.Code {
		b = appendNumbers(b, i.Op, i.A, i.B, i.C, i.D)
	}
	return b
}
