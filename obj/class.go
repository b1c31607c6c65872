package obj

import (
	"synchrony/api"
	"synchrony/clone"
)

// mostMemories is a bound on what is counted. An instance that contains others many times over can have more memories than a number can count.
const mostMemories = 1 << 40

// class is a class that is ready for execution.
type class struct {
	api.Class
	enums []api.Enum
	index map[string]int // of each variable, among all variables; of each memory and each instance, among those
	inner []*class       // the classes of the instances
	size  int            // the number of memories, with those of the instances
}

// prepare returns the classes of object code that Check accepts.
func prepare(o api.Objects) map[string]*class {
	enums, classes := clone.Map(o.Enums, clone.Enum), map[string]*class{}
	for _, x := range o.Classes {
		c := &class{Class: clone.Class(x), enums: enums, index: map[string]int{}, size: len(x.Mems)}
		for i, d := range variables(x) {
			c.index[d.Name] = i
		}
		for i, m := range x.Mems {
			c.index[m.Name] = i
		}
		for i, inst := range x.Insts {
			c.index[inst.Name] = i
			inner := classes[inst.Class]
			c.inner = append(c.inner, inner)
			c.size = min(c.size+inner.size, mostMemories)
		}
		classes[x.Name] = c
	}
	return classes
}
