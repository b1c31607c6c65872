package obj

import (
	"slices"

	"synchrony/api"
	"synchrony/value"
)

// Check returns an error unless object code is valid.
func Check(o api.Objects) api.Errno {
	wrong := func(x api.Enum) bool { return len(x.Tags) == 0 || len(x.Tags) > api.MaxTags }
	if len(o.Enums) > api.MaxEnums || slices.ContainsFunc(o.Enums, wrong) {
		return api.ErrForm
	}
	earlier := map[string]api.Class{}
	for _, c := range o.Classes {
		if _, ok := earlier[c.Name]; ok {
			return api.ErrTwice
		}
		if e := checkClass(o.Enums, earlier, c); e != api.OK {
			return e
		}
		earlier[c.Name] = c
	}
	return api.OK
}

// variables returns the variables of a class.
func variables(c api.Class) []api.Decl { return slices.Concat(c.In, c.Out, c.Locals) }

// checkClass returns the first error of a class behind earlier ones.
func checkClass(enums []api.Enum, earlier map[string]api.Class, c api.Class) api.Errno {
	if e := checkTypes(enums, c); e != api.OK {
		return e
	}
	if repeated(c) {
		return api.ErrTwice
	}
	for _, inst := range c.Insts {
		if _, ok := earlier[inst.Class]; !ok {
			return api.ErrName
		}
	}
	k := newChecker(enums, earlier, c)
	if e := k.statements(c.Step); e != api.OK {
		return e
	}
	for _, d := range c.Out {
		if !k.assigned(k.vars[d.Name]) {
			return api.ErrOrder
		}
	}
	return api.OK
}

// checkTypes returns the first error of the variables and memories of a class, apart from their names.
func checkTypes(enums []api.Enum, c api.Class) api.Errno {
	for _, d := range variables(c) {
		if _, ok := value.Name(enums, d.Type); !ok {
			return api.ErrType
		}
		if len(d.Clock) > 0 {
			return api.ErrForm
		}
	}
	for _, m := range c.Mems {
		if !value.Has(enums, m.Type, m.Init) {
			return api.ErrType
		}
	}
	return api.OK
}

// repeated reports whether two parts of a class have the same name.
func repeated(c api.Class) bool {
	names := map[string]bool{}
	for _, d := range variables(c) {
		names[d.Name] = true
	}
	for _, m := range c.Mems {
		names[m.Name] = true
	}
	for _, inst := range c.Insts {
		names[inst.Name] = true
	}
	return len(names) < len(variables(c))+len(c.Mems)+len(c.Insts)
}
