package emit

import "synchrony/api"

// tooMany stands for all numbers of memories above the limit. Instances can contain others so many times over that no number counts their memories.
const tooMany = api.MaxMemory + 1

// layout is what the classes behind a class and its own code need to know of it.
type layout struct {
	index int // of the class
	size  int // of its memory
	parts map[string]part
}

// part is an instance that a class contains.
type part struct {
	routine int
	offset  int
}

// layouts returns the layout of each class of right object code.
func layouts(o api.Objects) map[string]layout {
	l := map[string]layout{}
	for i, c := range o.Classes {
		x := layout{index: i, size: len(c.Mems), parts: map[string]part{}}
		for _, inst := range c.Insts {
			inner := l[inst.Class]
			x.parts[inst.Name] = part{routine: inner.index, offset: x.size}
			x.size = min(x.size+inner.size, tooMany)
		}
		l[c.Name] = x
	}
	return l
}
