package obj

import (
	"reflect"
	"slices"
	"strings"

	"synchrony/api"
	"synchrony/value"
)

// The reference does what the chapter says about Check, without regard to time.

// pair is an element of a context.
type pair struct {
	name   string
	branch int
}

// reference checks a class.
type reference struct {
	enums   []api.Enum
	earlier []api.Class
	class   api.Class
}

func refSize(enums []api.Enum, t int) int {
	switch {
	case t == api.TBool:
		return 2
	case t == api.TInt:
		return 65536
	case t >= api.TEnum && t < api.TEnum+len(enums):
		return len(enums[t-api.TEnum].Tags)
	}
	return 0
}

func refHas(enums []api.Enum, t, v int) bool {
	if t == api.TInt {
		return v >= -32768 && v <= 32767
	}
	return v >= 0 && v < refSize(enums, t)
}

func refCheck(o api.Objects) api.Errno {
	if len(o.Enums) > 24 {
		return api.ErrForm
	}
	for _, x := range o.Enums {
		if len(x.Tags) < 1 || len(x.Tags) > 16 {
			return api.ErrForm
		}
	}
	for i, c := range o.Classes {
		r := &reference{enums: o.Enums, earlier: o.Classes[:i], class: c}
		if e := r.check(); e != api.OK {
			return e
		}
	}
	return api.OK
}

func (r *reference) check() api.Errno {
	for _, c := range r.earlier {
		if c.Name == r.class.Name {
			return api.ErrTwice
		}
	}
	var names []string
	for _, d := range slices.Concat(r.class.In, r.class.Out, r.class.Locals) {
		names = append(names, d.Name)
		if refSize(r.enums, d.Type) == 0 {
			return api.ErrType
		}
		if len(d.Clock) != 0 {
			return api.ErrForm
		}
	}
	for _, m := range r.class.Mems {
		names = append(names, m.Name)
		if refSize(r.enums, m.Type) == 0 || !refHas(r.enums, m.Type, m.Init) {
			return api.ErrType
		}
	}
	for _, x := range r.class.Insts {
		names = append(names, x.Name)
	}
	slices.Sort(names)
	if len(slices.Compact(slices.Clone(names))) != len(names) {
		return api.ErrTwice
	}
	for _, x := range r.class.Insts {
		if _, ok := r.classOf(x.Name); !ok {
			return api.ErrName
		}
	}
	if e := r.list(r.class.Step, nil, nil); e != api.OK {
		return e
	}
	for _, d := range r.class.Out {
		if !r.assignedBefore(d.Name, r.class.Step, nil) {
			return api.ErrOrder
		}
	}
	return api.OK
}

func (r *reference) classOf(inst string) (api.Class, bool) {
	for _, x := range r.class.Insts {
		for _, c := range r.earlier {
			if x.Name == inst && c.Name == x.Class {
				return c, true
			}
		}
	}
	return api.Class{}, false
}

func declared(l []api.Decl, name string) (int, bool) {
	for _, d := range l {
		if d.Name == name {
			return d.Type, true
		}
	}
	return 0, false
}

// list checks the statements of a list, behind those before it.
func (r *reference) list(l, before []api.Stmt, context []pair) api.Errno {
	for i, s := range l {
		if e := r.statement(s, slices.Concat(before, l[:i]), context); e != api.OK {
			return e
		}
	}
	return api.OK
}

// assigns is the chapter's definition; with can, it is that of "can assign".
func assignsIn(s api.Stmt, x string, context []pair, can bool) bool {
	switch s.Kind {
	case api.SAssign:
		return s.Name == x
	case api.SCall:
		return slices.Contains(s.Outs, x)
	case api.SCase:
	default:
		return false
	}
	some := func(k int, context []pair) bool {
		return k < len(s.Branches) && slices.ContainsFunc(s.Branches[k], func(s api.Stmt) bool { return assignsIn(s, x, context, can) })
	}
	if i := slices.IndexFunc(context, func(p pair) bool { return p.name == s.Name }); i >= 0 {
		return some(context[i].branch, context)
	}
	count := 0
	for k := range s.Branches {
		if some(k, append(slices.Clone(context), pair{s.Name, k})) {
			count++
		}
	}
	return can && count > 0 || !can && count == len(s.Branches)
}

func (r *reference) assignedBefore(x string, before []api.Stmt, context []pair) bool {
	_, input := declared(r.class.In, x)
	return input || slices.ContainsFunc(before, func(s api.Stmt) bool { return assignsIn(s, x, context, false) })
}

// only reports whether all fields of a struct are zero or empty, but for the Kind and those that are listed.
func only(x any, fields string) bool {
	v := reflect.ValueOf(x)
	for i := range v.NumField() {
		if name := v.Type().Field(i).Name; name != "Kind" && !slices.Contains(strings.Fields(fields), name) && !zero(v.Field(i)) {
			return false
		}
	}
	return true
}

func zero(v reflect.Value) bool {
	switch v.Kind() {
	case reflect.Slice:
		return v.Len() == 0
	case reflect.Struct:
		for i := range v.NumField() {
			if !zero(v.Field(i)) {
				return false
			}
		}
		return true
	}
	return v.IsZero()
}

func objectExpression(e api.Expr) bool {
	fields, ok := map[int]string{api.EConst: "T V", api.EVar: "Name", api.EState: "Name", api.EOp: "Op Args", api.EIf: "Args"}[e.Kind]
	if !ok || !only(e, fields) {
		return false
	}
	switch n := len(e.Args); {
	case e.Kind == api.EIf && n != 3:
		return false
	case e.Kind == api.EOp && (e.Op < api.OpNot || e.Op > api.OpGe):
		return false
	case e.Kind == api.EOp && e.Op <= api.OpNeg && n != 1, e.Kind == api.EOp && e.Op > api.OpNeg && n != 2:
		return false
	}
	for _, a := range e.Args {
		if !objectExpression(a) {
			return false
		}
	}
	return true
}

func (r *reference) expression(e api.Expr, before []api.Stmt, context []pair) (int, api.Errno) {
	if !objectExpression(e) {
		return 0, api.ErrForm
	}
	return r.typeOf(e, before, context)
}

func (r *reference) typeOf(e api.Expr, before []api.Stmt, context []pair) (int, api.Errno) {
	var types []int
	for _, a := range e.Args {
		t, wrong := r.typeOf(a, before, context)
		if wrong != api.OK {
			return 0, wrong
		}
		types = append(types, t)
	}
	switch e.Kind {
	case api.EConst:
		if !refHas(r.enums, e.T, e.V) {
			return 0, api.ErrType
		}
		return e.T, api.OK
	case api.EVar:
		t, ok := declared(slices.Concat(r.class.In, r.class.Out, r.class.Locals), e.Name)
		if !ok {
			return 0, api.ErrName
		}
		if !r.assignedBefore(e.Name, before, context) {
			return 0, api.ErrOrder
		}
		return t, api.OK
	case api.EState:
		return r.memory(e.Name)
	case api.EOp:
		return value.Result(e.Op, types...)
	}
	if types[0] != api.TBool || types[1] != types[2] {
		return 0, api.ErrType
	}
	return types[1], api.OK
}

func (r *reference) memory(name string) (int, api.Errno) {
	for _, m := range r.class.Mems {
		if m.Name == name {
			return m.Type, api.OK
		}
	}
	return 0, api.ErrName
}

// target returns the error of an assignment of the type t.
func (r *reference) target(name string, t int, before []api.Stmt, context []pair) api.Errno {
	is, ok := declared(slices.Concat(r.class.Out, r.class.Locals), name)
	if !ok {
		return api.ErrName
	}
	if slices.ContainsFunc(before, func(s api.Stmt) bool { return assignsIn(s, name, context, true) }) {
		return api.ErrTwice
	}
	if is != t {
		return api.ErrType
	}
	return api.OK
}

func (r *reference) statement(s api.Stmt, before []api.Stmt, context []pair) api.Errno {
	fields, ok := map[int]string{api.SAssign: "Name Right", api.SStore: "Name Right", api.SCase: "Name T Branches", api.SCall: "Name Outs Args", api.SReset: "Name"}[s.Kind]
	if !ok || !only(s, fields) {
		return api.ErrForm
	}
	switch s.Kind {
	case api.SCase:
		return r.choose(s, before, context)
	case api.SCall:
		return r.call(s, before, context)
	case api.SReset:
		if _, ok := r.classOf(s.Name); !ok {
			return api.ErrName
		}
		return api.OK
	}
	t, e := r.expression(s.Right, before, context)
	if e != api.OK {
		return e
	}
	if s.Kind == api.SAssign {
		return r.target(s.Name, t, before, context)
	}
	is, e := r.memory(s.Name)
	if e == api.OK && is != t {
		return api.ErrType
	}
	return e
}

func (r *reference) choose(s api.Stmt, before []api.Stmt, context []pair) api.Errno {
	is, ok := declared(slices.Concat(r.class.In, r.class.Out, r.class.Locals), s.Name)
	switch {
	case !ok:
		return api.ErrName
	case !r.assignedBefore(s.Name, before, context):
		return api.ErrOrder
	case s.T != is, s.T == api.TInt:
		return api.ErrType
	case len(s.Branches) != refSize(r.enums, s.T):
		return api.ErrArity
	}
	for k, l := range s.Branches {
		if e := r.list(l, before, append(slices.Clone(context), pair{s.Name, k})); e != api.OK {
			return e
		}
	}
	return api.OK
}

func (r *reference) call(s api.Stmt, before []api.Stmt, context []pair) api.Errno {
	c, ok := r.classOf(s.Name)
	if !ok {
		return api.ErrName
	}
	if len(s.Args) != len(c.In) || len(s.Outs) != len(c.Out) {
		return api.ErrArity
	}
	for i, a := range s.Args {
		t, e := r.expression(a, before, context)
		if e != api.OK {
			return e
		}
		if t != c.In[i].Type {
			return api.ErrType
		}
	}
	for i, name := range s.Outs {
		earlier := api.Stmt{Kind: api.SCall, Outs: s.Outs[:i]}
		if e := r.target(name, c.Out[i].Type, append(slices.Clone(before), earlier), context); e != api.OK {
			return e
		}
	}
	return api.OK
}
