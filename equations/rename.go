package equations

import "synchrony/api"

// Rename replaces each variable that an equation reads and for which there is a name in names.
func Rename(x *api.NEq, names map[string]string) {
	renameExpr(&x.Right, names)
	for i := range x.Args {
		renameExpr(&x.Args[i], names)
	}
	if x.Every != "" {
		rename(&x.Every, names)
	}
	RenameClock(x.Clock, names)
}

// RenameClock replaces each clock variable for which there is a name in names.
func RenameClock(ck []api.On, names map[string]string) {
	for i := range ck {
		rename(&ck[i].Name, names)
	}
}

func renameExpr(e *api.Expr, names map[string]string) {
	switch e.Kind {
	case api.EVar, api.EWhen, api.EMerge:
		rename(&e.Name, names)
	}
	for i := range e.Args {
		renameExpr(&e.Args[i], names)
	}
}

func rename(name *string, names map[string]string) {
	if other, ok := names[*name]; ok {
		*name = other
	}
}
