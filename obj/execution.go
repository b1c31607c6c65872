package obj

import (
	"synchrony/api"
	"synchrony/clone"
	"synchrony/value"
)

// execution is the execution of a step by an instance.
type execution struct {
	*instance
	values []int // of the variables
}

func (x *execution) all(l []api.Stmt) {
	for _, s := range l {
		x.execute(s)
	}
}

func (x *execution) execute(s api.Stmt) {
	i := x.index[s.Name]
	switch s.Kind {
	case api.SAssign:
		x.values[i] = x.value(s.Right)
	case api.SStore:
		x.memory[i] = x.value(s.Right)
	case api.SCase:
		x.all(s.Branches[x.values[i]])
	case api.SCall:
		for k, v := range x.part(i).step(clone.Map(s.Args, x.value)) {
			x.values[x.index[s.Outs[k]]] = v
		}
	case api.SReset:
		x.parts[i] = nil
	}
}

// value returns the value of an expression.
func (x *execution) value(e api.Expr) int {
	switch e.Kind {
	case api.EConst:
		return e.V
	case api.EVar:
		return x.values[x.index[e.Name]]
	case api.EState:
		return x.memory[x.index[e.Name]]
	case api.EIf:
		if x.value(e.Args[0]) == 1 {
			return x.value(e.Args[1])
		}
		return x.value(e.Args[2])
	}
	v, _ := value.Apply(e.Op, clone.Map(e.Args, x.value)...)
	return v
}
