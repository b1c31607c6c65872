package asm

import "synchrony/api"

// mostSteps is the greatest number of instructions that an execution may have.
const mostSteps = 1 << 40

// Worst returns the greatest number of instructions that a step of the main routine executes.
func Worst(im api.Image) (int, api.Errno) {
	if e := Check(im); e != api.OK {
		return 0, e
	}
	counts := make([]int, len(im.Routines))
	for k, r := range im.Routines {
		counts[k] = worst(r.Code, counts)
	}
	if last := counts[len(counts)-1]; last <= mostSteps {
		return last, api.OK
	}
	return 0, api.ErrLimit
}

// worst returns the greatest number of instructions that an execution of the code has, which can call routines with the numbers in counts. All numbers above mostSteps are the same.
func worst(code []api.Instr, counts []int) int {
	rest := make([]int, len(code)+1) // from each instruction on
	for at := len(code) - 1; at >= 0; at-- {
		i := code[at]
		n := rest[at+1]
		switch i.Op {
		case api.IJump:
			n = rest[i.B]
		case api.IZero:
			n = max(n, rest[i.B])
		case api.ICall:
			n += counts[i.A]
		}
		rest[at] = min(n+1, mostSteps+1)
	}
	return rest[0]
}
