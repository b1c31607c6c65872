package asm

import "synchrony/api"

// Kinds of fields of instructions.
const (
	nothing = iota
	register
	memory
	number
	unary   // an operator with one operand
	binary  // an operator with two operands
	target  // an instruction that comes later
	routine // a routine that comes earlier
	block   // the first of as many memories as the routine has
	inputs  // the first of as many registers as the routine has inputs
	outputs // the first of as many registers as the routine has outputs
)

// layout is the word of an operation, and the kinds of its fields A to D.
type layout struct {
	word   string
	fields [4]int
}

// layouts has the layout of each operation.
var layouts = [...]layout{
	api.ILoad:  {"load", [4]int{register, number}},
	api.IMove:  {"move", [4]int{register, register}},
	api.IRead:  {"read", [4]int{register, memory}},
	api.IWrite: {"write", [4]int{memory, register}},
	api.IUnary: {"unary", [4]int{register, register, unary}},
	api.IApply: {"apply", [4]int{register, register, register, binary}},
	api.IJump:  {"jump", [4]int{nothing, target}},
	api.IZero:  {"zero", [4]int{register, target}},
	api.ICall:  {"call", [4]int{routine, block, inputs, outputs}},
	api.IReset: {"reset", [4]int{routine, block}},
}

// layoutOf returns the layout of an operation; that of none has no word.
func layoutOf(op int) layout {
	if op < 0 || op >= len(layouts) {
		return layout{}
	}
	return layouts[op]
}

// fieldsOf returns the fields A to D.
func fieldsOf(i api.Instr) [4]int { return [4]int{i.A, i.B, i.C, i.D} }

// operation returns the operation with a word, or none.
func operation(word string) int {
	for op, l := range layouts {
		if l.word == word {
			return op
		}
	}
	return 0
}
