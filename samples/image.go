package samples

import "synchrony/api"

// routines makes the routines of an image.
type routines struct {
	choose Choose
	api.Image
	routine api.Routine // the one that is made, behind those before
}

// Image returns a right image, in which code does anything; that of a routine has less than so many instructions.
func Image(choose Choose, most int) api.Image {
	b := &routines{choose: choose}
	b.Enums = b.numbers(3, func() int { return 1 + choose(api.MaxTags) })
	typ := func() int { return api.TBool + choose(2+len(b.Enums)) }
	for range 1 + choose(4) {
		x := api.Routine{Name: pick(choose, "f", "F_1", "0", "_", "end"), In: b.numbers(3, typ), Out: b.numbers(3, typ)}
		x.Regs = len(x.In) + len(x.Out) + choose(4)
		x.Init = b.numbers(4, b.number)
		b.routine = x
		length := choose(most)
		for at := range length {
			b.routine.Code = append(b.routine.Code, b.instruction(at, length))
		}
		b.Routines = append(b.Routines, b.routine)
	}
	return b.Image
}

// numbers returns up to n results.
func (b *routines) numbers(n int, f func() int) []int {
	var l []int
	for range b.choose(n + 1) {
		l = append(l, f())
	}
	return l
}

// number returns a truth value or any number.
func (b *routines) number() int {
	if b.choose(2) == 0 {
		return b.choose(2)
	}
	return b.choose(api.MaxInt-api.MinInt+1) + api.MinInt
}

func (b *routines) register() int { return b.choose(b.routine.Regs) }

func (b *routines) memory() int { return b.choose(len(b.routine.Init)) }

// instruction returns one for an index of a code of that length.
func (b *routines) instruction(at, length int) api.Instr {
	target := at + 1 + b.choose(length-at)
	switch op := pick(b.choose, b.operations()...); op {
	case api.ILoad:
		return api.Instr{Op: op, A: b.register(), B: b.number()}
	case api.IMove:
		return api.Instr{Op: op, A: b.register(), B: b.register()}
	case api.IRead:
		return api.Instr{Op: op, A: b.register(), B: b.memory()}
	case api.IWrite:
		return api.Instr{Op: op, A: b.memory(), B: b.register()}
	case api.IUnary:
		return api.Instr{Op: op, A: b.register(), B: b.register(), C: pick(b.choose, api.OpNot, api.OpNeg)}
	case api.IApply:
		return api.Instr{Op: op, A: b.register(), B: b.register(), C: b.register(), D: api.OpAnd + b.choose(api.OpGe-api.OpAnd+1)}
	case api.IZero:
		return api.Instr{Op: op, A: b.register(), B: target}
	case api.ICall, api.IReset:
		if i, ok := b.call(op); ok {
			return i
		}
	}
	return api.Instr{Op: api.IJump, B: target}
}

// operations returns those that the routine can have; calls and resets are likely.
func (b *routines) operations() []int {
	l := []int{api.IJump}
	if b.routine.Regs > 0 {
		l = append(l, api.ILoad, api.IMove, api.IUnary, api.IApply, api.IZero)
		if len(b.routine.Init) > 0 {
			l = append(l, api.IRead, api.IWrite)
		}
	}
	if len(b.Routines) > 0 {
		l = append(l, api.ICall, api.ICall, api.IReset)
	}
	return l
}

// call returns a call or reset of a routine, unless this one is too small for that.
func (b *routines) call(op int) (api.Instr, bool) {
	a := b.choose(len(b.Routines))
	c := b.Routines[a]
	memories, ins, outs := len(b.routine.Init)-len(c.Init), b.routine.Regs-len(c.In), b.routine.Regs-len(c.Out)
	if memories < 0 || ins < 0 || outs < 0 {
		return api.Instr{}, false
	}
	i := api.Instr{Op: op, A: a, B: b.choose(memories + 1)}
	if op == api.ICall {
		i.C, i.D = b.choose(ins+1), b.choose(outs+1)
	}
	return i, true
}
