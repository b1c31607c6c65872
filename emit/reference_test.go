package emit

import (
	"fmt"
	"slices"
	"strconv"
	"strings"

	"synchrony/api"
)

// The reference writes the text of the image, word by word as the chapter says; the targets in it are labels until the code is complete.

type ref struct {
	api.Class
	before   []api.Class // up to this one
	memories map[string][]int
	lines    []string
	labels   int
}

func (x *ref) line(format string, a ...any) { x.lines = append(x.lines, fmt.Sprintf(format, a...)) }

// label returns a new label.
func (x *ref) label() string {
	x.labels++
	return fmt.Sprintf("L%d", x.labels)
}

func refFind(l []api.Class, name string) int {
	return slices.IndexFunc(l, func(c api.Class) bool { return c.Name == name })
}

// refMemory returns the initial values of the memory of a class; memories has those of the classes before.
func refMemory(memories map[string][]int, c api.Class) []int {
	var is []int
	for _, m := range c.Mems {
		is = append(is, m.Init)
	}
	for _, inst := range c.Insts {
		is = append(is, memories[inst.Class]...)
	}
	return is
}

func (x *ref) register(name string) int {
	return slices.IndexFunc(slices.Concat(x.In, x.Out, x.Locals), func(d api.Decl) bool { return d.Name == name })
}

func (x *ref) mem(name string) int {
	return slices.IndexFunc(x.Mems, func(m api.Mem) bool { return m.Name == name })
}

// instance returns the index of the routine of an instance, and its offset.
func (x *ref) instance(name string) (int, int) {
	i := slices.IndexFunc(x.Insts, func(inst api.Inst) bool { return inst.Name == name })
	c := x.Class
	c.Insts = c.Insts[:i]
	return refFind(x.before, x.Insts[i].Class), len(refMemory(x.memories, c))
}

func (x *ref) first() int { return len(x.In) + len(x.Out) + len(x.Locals) }

func (x *ref) operand(e api.Expr, t *int) int {
	if e.Kind == api.EVar {
		return x.register(e.Name)
	}
	r := *t
	x.eval(e, r, r+1)
	*t = r + 1
	return r
}

func (x *ref) eval(e api.Expr, r, t int) {
	switch {
	case e.Kind == api.EConst:
		x.line("load %d %d", r, e.V)
	case e.Kind == api.EVar:
		x.line("move %d %d", r, x.register(e.Name))
	case e.Kind == api.EState:
		x.line("read %d %d", r, x.mem(e.Name))
	case e.Kind == api.EOp && len(e.Args) == 1:
		x.line("unary %d %d %d", r, x.operand(e.Args[0], &t), e.Op)
	case e.Kind == api.EOp:
		a := x.operand(e.Args[0], &t)
		b := x.operand(e.Args[1], &t)
		x.line("apply %d %d %d %d", r, a, b, e.Op)
	case e.Kind == api.EIf:
		y, l, end := x.operand(e.Args[0], &t), x.label(), x.label()
		x.line("zero %d %s", y, l)
		x.eval(e.Args[1], r, t)
		x.line("jump %s", end)
		x.line("%s:", l)
		x.eval(e.Args[2], r, t)
		x.line("%s:", end)
	}
}

func (x *ref) statements(l []api.Stmt) {
	for _, s := range l {
		x.statement(s)
	}
}

func (x *ref) statement(s api.Stmt) {
	t := x.first()
	switch s.Kind {
	case api.SAssign:
		x.eval(s.Right, x.register(s.Name), t)
	case api.SStore:
		y := x.operand(s.Right, &t)
		x.line("write %d %d", x.mem(s.Name), y)
	case api.SCase:
		y, end := x.register(s.Name), x.label()
		for i := 0; i <= len(s.Branches)-2; i++ {
			l := x.label()
			x.line("load %d %d", t, i)
			x.line("apply %d %d %d %d", t+1, y, t, api.OpEq)
			x.line("zero %d %s", t+1, l)
			x.statements(s.Branches[i])
			x.line("jump %s", end)
			x.line("%s:", l)
		}
		x.statements(s.Branches[len(s.Branches)-1])
		x.line("%s:", end)
	case api.SCall:
		n := len(s.Args)
		for i, a := range s.Args {
			x.eval(a, t+i, t+n)
		}
		k, offset := x.instance(s.Name)
		x.line("call %d %d %d %d", k, offset, t, t+n)
		for i, name := range s.Outs {
			x.line("move %d %d", x.register(name), t+n+i)
		}
	case api.SReset:
		k, offset := x.instance(s.Name)
		x.line("reset %d %d", k, offset)
	}
}

// code returns the lines of the code, with numbers for the labels.
func (x *ref) code() []string {
	var is []string
	at := map[string]string{}
	for _, line := range x.lines {
		if label, ok := strings.CutSuffix(line, ":"); ok {
			at[label] = strconv.Itoa(len(is))
		} else {
			is = append(is, line)
		}
	}
	for i, line := range is {
		words := strings.Fields(line)
		if words[0] == "zero" || words[0] == "jump" {
			last := len(words) - 1
			words[last] = at[words[last]]
			is[i] = strings.Join(words, " ")
		}
	}
	return is
}

// regs returns the number of registers.
func (x *ref) regs(code []string) int {
	regs := x.first()
	for _, line := range code {
		var f [4]int
		word := strings.Fields(line)[0]
		fmt.Sscan(line[len(word):], &f[0], &f[1], &f[2], &f[3])
		used := map[string][]int{"load": f[:1], "move": f[:2], "read": f[:1], "write": f[1:2], "unary": f[:2], "apply": f[:3], "zero": f[:1]}[word]
		if word == "call" {
			for i := range x.before[f[0]].In {
				used = append(used, f[2]+i)
			}
			for i := range x.before[f[0]].Out {
				used = append(used, f[3]+i)
			}
		}
		for _, r := range used {
			regs = max(regs, r+1)
		}
	}
	return regs
}

func refNumbers(word string, l []int) string {
	for _, v := range l {
		word += " " + strconv.Itoa(v)
	}
	return word
}

func refTypes(word string, l []api.Decl) string {
	var types []int
	for _, d := range l {
		types = append(types, d.Type)
	}
	return refNumbers(word, types)
}

// refText returns the text of the image of right object code.
func refText(o api.Objects) string {
	var tags []int
	for _, enum := range o.Enums {
		tags = append(tags, len(enum.Tags))
	}
	lines, memories := []string{refNumbers("enums", tags)}, map[string][]int{}
	for i, c := range o.Classes {
		memories[c.Name] = refMemory(memories, c)
		x := ref{Class: c, before: o.Classes[:i], memories: memories}
		x.statements(c.Step)
		code := x.code()
		lines = append(lines, "routine "+c.Name, refTypes("in", c.In), refTypes("out", c.Out), refNumbers("regs", []int{x.regs(code)}), refNumbers("init", memories[c.Name]))
		lines = append(append(lines, code...), "end")
	}
	return strings.Join(lines, "\n") + "\n"
}
