package obj

import "synchrony/value"

// instance is an instance of a class.
type instance struct {
	*class
	memory []int
	parts  []*instance // nil where a part is as at the beginning; so there are not more of them than are executed
}

func newInstance(c *class) *instance {
	x := &instance{class: c, memory: make([]int, len(c.Mems)), parts: make([]*instance, len(c.Insts))}
	for i, m := range c.Mems {
		x.memory[i] = m.Init
	}
	return x
}

// part returns an instance that x contains.
func (x *instance) part(i int) *instance {
	if x.parts[i] == nil {
		x.parts[i] = newInstance(x.inner[i])
	}
	return x.parts[i]
}

// appendTo appends the memories to l.
func (x *instance) appendTo(l []int) []int {
	l = append(l, x.memory...)
	for i, c := range x.inner {
		if c.size > 0 {
			l = x.part(i).appendTo(l)
		}
	}
	return l
}

// load sets the memories, unless one of the values is not of the type of its memory.
func (x *instance) load(l []int) bool {
	for i, m := range x.Mems {
		if !value.Has(x.enums, m.Type, l[i]) {
			return false
		}
	}
	l = l[copy(x.memory, l):]
	for i, c := range x.inner {
		if c.size > 0 && !x.part(i).load(l[:c.size]) {
			return false
		}
		l = l[c.size:]
	}
	return true
}

// step executes the step of the class, and returns the outputs.
func (x *instance) step(in []int) []int {
	run := execution{instance: x, values: make([]int, len(x.In)+len(x.Out)+len(x.Locals))}
	outputs := run.values[copy(run.values, in):]
	run.all(x.Step)
	return outputs[:len(x.Out)]
}
