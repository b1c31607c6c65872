package gen

import "synchrony/api"

func assign(name string, e api.Expr) api.Stmt {
	return api.Stmt{Kind: api.SAssign, Name: name, Right: e}
}

func store(memory string, e api.Expr) api.Stmt {
	return api.Stmt{Kind: api.SStore, Name: memory, Right: e}
}

func state(memory string) api.Expr { return api.Expr{Kind: api.EState, Name: memory} }

func number(v int) api.Expr { return api.Expr{Kind: api.EConst, T: api.TInt, V: v} }

func apply(op int, args ...api.Expr) api.Expr { return api.Expr{Kind: api.EOp, Op: op, Args: args} }

func either(args ...api.Expr) api.Expr { return api.Expr{Kind: api.EIf, Args: args} }

func truth(b bool) api.Expr {
	e := api.Expr{Kind: api.EConst, T: api.TBool}
	if b {
		e.V = 1
	}
	return e
}
