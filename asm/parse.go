package asm

import (
	"slices"
	"strconv"
	"strings"

	"synchrony/api"
)

// longest is the greatest number of bytes of a text.
const longest = 1 << 22

// Parse returns the image with the text s, or the first line that is wrong.
func Parse(s string) (api.Image, int, api.Errno) {
	if len(s) > longest {
		return api.Image{}, 0, api.ErrLimit
	}
	r := reader{rest: s}
	im := api.Image{Enums: r.numbers("enums")}
	for r.err == api.OK && r.rest != "" {
		im.Routines = append(im.Routines, r.routine())
	}
	if r.err != api.OK {
		return api.Image{}, r.line, r.err
	}
	if e := Check(im); e != api.OK {
		return api.Image{}, 0, e
	}
	return im, 0, api.OK
}

// reader reads the lines of a text. After an error it stays at the line that has it, and what it returns is not used.
type reader struct {
	rest string // what is not read yet
	line int    // how many lines are read
	err  api.Errno
}

// require makes the line that was read last malformed unless ok.
func (r *reader) require(ok bool) {
	if r.err == api.OK && !ok {
		r.err = api.ErrForm
	}
}

// words returns the words of the next line, and at least one.
func (r *reader) words() []string {
	if r.err != api.OK {
		return []string{""}
	}
	r.line++
	line, rest, ok := strings.Cut(r.rest, "\n")
	if !ok {
		r.err = api.ErrEnd
	}
	r.rest = rest
	words := strings.Split(line, " ")
	r.require(!slices.Contains(words, ""))
	return words
}

// numbers reads a line with a word and any number of numbers.
func (r *reader) numbers(word string) []int {
	words := r.words()
	r.require(words[0] == word)
	return r.values(words[1:])
}

// values returns the numbers that the words are.
func (r *reader) values(words []string) []int {
	var l []int
	for _, word := range words {
		v, err := strconv.ParseInt(word, 10, 32)
		r.require(err == nil && strconv.FormatInt(v, 10) == word) // 01, +1 and -0 are none
		l = append(l, int(v))
	}
	return l
}

func (r *reader) routine() api.Routine {
	var x api.Routine
	words := r.words()
	r.require(words[0] == "routine" && len(words) == 2)
	x.Name = words[len(words)-1]
	x.In = r.numbers("in")
	x.Out = r.numbers("out")
	regs := r.numbers("regs")
	r.require(len(regs) == 1)
	x.Init = r.numbers("init")
	x.Code = r.code()
	if r.err == api.OK {
		x.Regs = regs[0]
	}
	return x
}

// code reads the instructions and the end of a routine.
func (r *reader) code() []api.Instr {
	var code []api.Instr
	for {
		words := r.words()
		if r.err != api.OK {
			return nil
		}
		if words[0] == "end" {
			r.require(len(words) == 1)
			return code
		}
		code = append(code, r.instruction(words))
	}
}

// instruction returns the instruction that the words are.
func (r *reader) instruction(words []string) api.Instr {
	i := api.Instr{Op: operation(words[0])}
	l := layoutOf(i.Op)
	r.require(l.word != "")
	values := r.values(words[1:])
	for f, place := range [...]*int{&i.A, &i.B, &i.C, &i.D} {
		if l.fields[f] == nothing {
			continue
		}
		r.require(len(values) > 0)
		if len(values) > 0 {
			*place = values[0]
			values = values[1:]
		}
	}
	r.require(len(values) == 0)
	return i
}
