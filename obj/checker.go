package obj

import (
	"synchrony/api"
	"synchrony/value"
)

// variable is what is known about a variable of a class before the statement that is checked.
type variable struct {
	kind   int // its type
	input  bool
	places []*list // the lists in which it is assigned: by a statement itself, or in each branch of a case
}

// checker checks the statements of a class, one after the other.
type checker struct {
	api.Class
	enums   []api.Enum
	vars    map[string]*variable
	mems    map[string]int       // the types of the memories
	insts   map[string]api.Class // the classes of the instances
	here    *list                // the list in which the statement stands that is checked
	context map[string]int       // the branch in which it stands, of the outermost case by each variable
}

func newChecker(enums []api.Enum, earlier map[string]api.Class, c api.Class) *checker {
	k := &checker{
		Class:   c,
		enums:   enums,
		vars:    map[string]*variable{},
		mems:    map[string]int{},
		insts:   map[string]api.Class{},
		here:    &list{open: true},
		context: map[string]int{},
	}
	for i, d := range variables(c) {
		k.vars[d.Name] = &variable{kind: d.Type, input: i < len(k.In)}
	}
	for _, m := range k.Mems {
		k.mems[m.Name] = m.Type
	}
	for _, inst := range k.Insts {
		k.insts[inst.Name] = earlier[inst.Class]
	}
	return k
}

func (k *checker) statements(l []api.Stmt) api.Errno {
	for _, s := range l {
		if e := k.statement(s); e != api.OK {
			return e
		}
	}
	return api.OK
}

func (k *checker) statement(s api.Stmt) api.Errno {
	if !hasForm(s) {
		return api.ErrForm
	}
	switch s.Kind {
	case api.SAssign:
		t, e := k.expression(s.Right)
		if e != api.OK {
			return e
		}
		return k.assign(s.Name, t)
	case api.SStore:
		return k.store(s)
	case api.SCase:
		return k.choose(s)
	case api.SCall:
		return k.call(s)
	}
	if _, ok := k.insts[s.Name]; !ok {
		return api.ErrName
	}
	return api.OK
}

// assign returns the error of the assignment of a value of the type t to the variable with the name.
func (k *checker) assign(name string, t int) api.Errno {
	x, ok := k.vars[name]
	switch {
	case !ok || x.input:
		return api.ErrName
	case k.assignable(x):
		return api.ErrTwice
	case x.kind != t:
		return api.ErrType
	}
	k.place(x)
	return api.OK
}

func (k *checker) store(s api.Stmt) api.Errno {
	t, e := k.expression(s.Right)
	if e != api.OK {
		return e
	}
	kind, ok := k.mems[s.Name]
	switch {
	case !ok:
		return api.ErrName
	case kind != t:
		return api.ErrType
	}
	return api.OK
}

func (k *checker) choose(s api.Stmt) api.Errno {
	x, ok := k.vars[s.Name]
	switch {
	case !ok:
		return api.ErrName
	case !k.assigned(x):
		return api.ErrOrder
	case s.T != x.kind || s.T == api.TInt:
		return api.ErrType
	case len(s.Branches) != value.Size(k.enums, s.T):
		return api.ErrArity
	}
	return k.branches(s)
}

func (k *checker) call(s api.Stmt) api.Errno {
	c, ok := k.insts[s.Name]
	switch {
	case !ok:
		return api.ErrName
	case len(s.Args) != len(c.In) || len(s.Outs) != len(c.Out):
		return api.ErrArity
	}
	for i, a := range s.Args {
		t, e := k.expression(a)
		if e != api.OK {
			return e
		}
		if t != c.In[i].Type {
			return api.ErrType
		}
	}
	for i, name := range s.Outs {
		if e := k.assign(name, c.Out[i].Type); e != api.OK {
			return e
		}
	}
	return api.OK
}

// expression returns the type of an expression in the statement that is checked.
func (k *checker) expression(e api.Expr) (int, api.Errno) {
	if !isObject(e) {
		return 0, api.ErrForm
	}
	return k.typeOf(e)
}

func (k *checker) typeOf(e api.Expr) (int, api.Errno) {
	switch e.Kind {
	case api.EConst:
		if !value.Has(k.enums, e.T, e.V) {
			return 0, api.ErrType
		}
		return e.T, api.OK
	case api.EVar:
		return k.typeOfVariable(e.Name)
	case api.EState:
		t, ok := k.mems[e.Name]
		if !ok {
			return 0, api.ErrName
		}
		return t, api.OK
	}
	var types []int
	for _, a := range e.Args {
		t, e := k.typeOf(a)
		if e != api.OK {
			return 0, e
		}
		types = append(types, t)
	}
	if e.Kind == api.EOp {
		return value.Result(e.Op, types...)
	}
	if types[0] != api.TBool || types[1] != types[2] {
		return 0, api.ErrType
	}
	return types[1], api.OK
}

func (k *checker) typeOfVariable(name string) (int, api.Errno) {
	x, ok := k.vars[name]
	switch {
	case !ok:
		return 0, api.ErrName
	case !k.assigned(x):
		return 0, api.ErrOrder
	}
	return x.kind, api.OK
}
