package emit

import (
	"synchrony/api"
	"synchrony/asm"
)

// coder generates the code of a class.
type coder struct {
	registers map[string]int // of the variables
	memories  map[string]int // the indices of the class's own memories
	parts     map[string]part
	free      int // the first temporary register
	code      []api.Instr
}

// routine returns the routine of a class; im has those of the classes before it.
func routine(im api.Image, l map[string]layout, c api.Class) api.Routine {
	x := coder{registers: map[string]int{}, memories: map[string]int{}, parts: l[c.Name].parts}
	r := api.Routine{Name: c.Name}
	for _, d := range c.In {
		r.In = append(r.In, d.Type)
		x.declare(d)
	}
	for _, d := range c.Out {
		r.Out = append(r.Out, d.Type)
		x.declare(d)
	}
	for _, d := range c.Locals {
		x.declare(d)
	}
	for i, m := range c.Mems {
		r.Init = append(r.Init, m.Init)
		x.memories[m.Name] = i
	}
	for _, inst := range c.Insts {
		r.Init = append(r.Init, im.Routines[l[inst.Class].index].Init...)
	}
	x.statements(c.Step)
	r.Code, r.Regs = x.code, x.free
	for _, i := range r.Code {
		// A temporary register that is read is also set.
		for _, set := range asm.Sets(im, i) {
			r.Regs = max(r.Regs, set+1)
		}
	}
	return r
}

// declare gives the next register to a variable.
func (x *coder) declare(d api.Decl) {
	x.registers[d.Name] = x.free
	x.free++
}

func (x *coder) add(i api.Instr) { x.code = append(x.code, i) }

func (x *coder) statements(l []api.Stmt) {
	for _, s := range l {
		x.statement(s)
	}
}

func (x *coder) statement(s api.Stmt) {
	switch s.Kind {
	case api.SAssign:
		x.eval(s.Right, x.registers[s.Name], x.free)
	case api.SStore:
		r, _ := x.operand(s.Right, x.free)
		x.add(api.Instr{Op: api.IWrite, A: x.memories[s.Name], B: r})
	case api.SCase:
		x.cases(s)
	case api.SCall:
		x.call(s)
	case api.SReset:
		p := x.parts[s.Name]
		x.add(api.Instr{Op: api.IReset, A: p.routine, B: p.offset})
	}
}

func (x *coder) cases(s api.Stmt) {
	y, test := x.registers[s.Name], x.free+1
	last := len(s.Branches) - 1
	var before []branch
	for v, l := range s.Branches[:last] {
		x.add(api.Instr{Op: api.ILoad, A: x.free, B: v})
		x.add(api.Instr{Op: api.IApply, A: test, B: y, C: x.free, D: api.OpEq})
		before = append(before, x.guard(test, func() { x.statements(l) }))
	}
	x.statements(s.Branches[last])
	x.link(before...)
}

func (x *coder) call(s api.Stmt) {
	p, results := x.parts[s.Name], x.free+len(s.Args)
	for i, a := range s.Args {
		x.eval(a, x.free+i, results)
	}
	x.add(api.Instr{Op: api.ICall, A: p.routine, B: p.offset, C: x.free, D: results})
	for i, name := range s.Outs {
		x.add(api.Instr{Op: api.IMove, A: x.registers[name], B: results + i})
	}
}

// operand returns the register in which the value of e is, and the first one from t on that is free then.
func (x *coder) operand(e api.Expr, t int) (int, int) {
	if e.Kind == api.EVar {
		return x.registers[e.Name], t
	}
	x.eval(e, t, t+1)
	return t, t + 1
}

// eval appends the code that puts the value of e into the register r; those from t on are free.
func (x *coder) eval(e api.Expr, r, t int) {
	switch e.Kind {
	case api.EConst:
		x.add(api.Instr{Op: api.ILoad, A: r, B: e.V})
	case api.EVar:
		x.add(api.Instr{Op: api.IMove, A: r, B: x.registers[e.Name]})
	case api.EState:
		x.add(api.Instr{Op: api.IRead, A: r, B: x.memories[e.Name]})
	case api.EOp:
		x.apply(e, r, t)
	case api.EIf:
		condition, t := x.operand(e.Args[0], t)
		then := x.guard(condition, func() { x.eval(e.Args[1], r, t) })
		x.eval(e.Args[2], r, t)
		x.link(then)
	}
}

func (x *coder) apply(e api.Expr, r, t int) {
	var operands [2]int
	for i, a := range e.Args {
		operands[i], t = x.operand(a, t)
	}
	i := api.Instr{Op: api.IApply, A: r, B: operands[0], C: operands[1], D: e.Op}
	if len(e.Args) == 1 {
		i = api.Instr{Op: api.IUnary, A: r, B: operands[0], C: e.Op}
	}
	x.add(i)
}

// branch is where the code of a branch is. It begins with a test that leads behind it, and ends with a jump behind all branches.
type branch struct{ from, to int }

// guard appends a branch that is executed unless the register is 0. Its targets are not known yet.
func (x *coder) guard(test int, body func()) branch {
	from := len(x.code)
	x.add(api.Instr{Op: api.IZero, A: test})
	body()
	x.add(api.Instr{Op: api.IJump})
	return branch{from: from, to: len(x.code)}
}

// link sets the targets of the tests and jumps of branches, all of which end here.
func (x *coder) link(branches ...branch) {
	for _, b := range branches {
		// Bounded, so that nothing of what follows the branch belongs to it.
		code := x.code[b.from:b.to:b.to]
		code[0].B, code[len(code)-1].B = b.to, len(x.code)
	}
}
