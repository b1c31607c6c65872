package asm

import (
	"strconv"

	"synchrony/api"
)

// Text returns the text of an image.
func Text(im api.Image) (string, api.Errno) {
	if e := Check(im); e != api.OK {
		return "", e
	}
	b := line(nil, "enums", im.Enums...)
	for _, r := range im.Routines {
		b = append(b, "routine "+r.Name+"\n"...)
		b = line(b, "in", r.In...)
		b = line(b, "out", r.Out...)
		b = line(b, "regs", r.Regs)
		b = line(b, "init", r.Init...)
		for _, i := range r.Code {
			l := layoutOf(i.Op)
			b = line(b, l.word, given(l, i)...)
		}
		b = line(b, "end")
	}
	return string(b), api.OK
}

// line appends a line with a word and numbers to a text.
func line(b []byte, word string, numbers ...int) []byte {
	b = append(b, word...)
	for _, v := range numbers {
		b = strconv.AppendInt(append(b, ' '), int64(v), 10)
	}
	return append(b, '\n')
}

// given returns the fields that an instruction has.
func given(l layout, i api.Instr) []int {
	var numbers []int
	for f, v := range fieldsOf(i) {
		if l.fields[f] != nothing {
			numbers = append(numbers, v)
		}
	}
	return numbers
}
