package cpu

import (
	"synchrony/api"
	"synchrony/value"
)

// registers returns how many registers the last routine needs, with those that it calls, one in another.
func registers(l []api.Routine) int {
	needs := make([]int, len(l))
	for k, r := range l {
		inner := 0
		for _, i := range r.Code {
			if i.Op == api.ICall {
				inner = max(inner, needs[i.A])
			}
		}
		needs[k] = r.Regs + inner
	}
	return needs[len(l)-1]
}

// execution is the execution of a step.
type execution struct {
	routines []api.Routine
	count    int // of the instructions that are executed
}

// frame is the execution of a routine.
type frame struct {
	*execution
	registers []int
	memory    []int
	free      []int // the registers for those that it calls
}

// run executes a routine, and returns its outputs, which are among the registers that were free.
func (x *execution) run(k int, in, memory, free []int) []int {
	r := x.routines[k]
	f := frame{execution: x, registers: free[:r.Regs:r.Regs], memory: memory, free: free[r.Regs:]}
	clear(f.registers[copy(f.registers, in):])
	for at := 0; at < len(r.Code); x.count++ {
		at = f.execute(r.Code[at], at)
	}
	return f.registers[len(r.In):][:len(r.Out)]
}

// execute executes the instruction with the index at, and returns the index of the next one.
func (f *frame) execute(i api.Instr, at int) int {
	switch i.Op {
	case api.ILoad:
		f.registers[i.A] = i.B
	case api.IMove:
		f.registers[i.A] = f.registers[i.B]
	case api.IRead:
		f.registers[i.A] = f.memory[i.B]
	case api.IWrite:
		f.memory[i.A] = f.registers[i.B]
	case api.IUnary:
		f.registers[i.A] = apply(i.C, f.registers[i.B])
	case api.IApply:
		f.registers[i.A] = apply(i.D, f.registers[i.B], f.registers[i.C])
	case api.IJump:
		return i.B
	case api.IZero:
		if f.registers[i.A] == 0 {
			return i.B
		}
	case api.ICall:
		f.call(i)
	case api.IReset:
		copy(f.memory[i.B:], f.routines[i.A].Init)
	}
	return at + 1
}

// call executes the routine that an instruction calls. It gets no memory but its own block.
func (f *frame) call(i api.Instr) {
	r := f.routines[i.A]
	end := i.B + len(r.Init)
	in := f.registers[i.C:][:len(r.In)]
	copy(f.registers[i.D:], f.run(i.A, in, f.memory[i.B:end:end], f.free))
}

// apply returns the result of an operator, and 0 if it has none.
func apply(op int, args ...int) int {
	v, _ := value.Apply(op, args...) // 0 with an error
	return v
}
