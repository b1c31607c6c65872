package stream

import "synchrony/api"

func present(v int) api.Cell { return api.Cell{Kind: api.Present, V: v} }

func undefined() api.Cell { return api.Cell{Kind: api.Undef} }

// there reports whether a cell is present or undefined.
func there(c api.Cell) bool { return c.Kind == api.Present || c.Kind == api.Undef }

// joint reports whether all cells of an instant are there.
func joint(cells []api.Cell) bool {
	for _, c := range cells {
		if !there(c) {
			return false
		}
	}
	return true
}

// plain returns what a cell of an argument counts as: only a present cell has a value.
func plain(c api.Cell) api.Cell {
	switch c.Kind {
	case api.Present:
		return c
	case api.Undef:
		return undefined()
	}
	return api.Cell{}
}

// combine returns, instant by instant, the cell that step returns for the cells of the streams and for the state that it returned at the instant before.
func combine[S any](state S, step func(state S, cells []api.Cell) (S, api.Cell), l ...[]api.Cell) []api.Cell {
	if len(l) == 0 {
		return nil
	}
	n := len(l[0])
	for _, s := range l {
		n = min(n, len(s))
	}
	result := make([]api.Cell, n)
	cells := make([]api.Cell, len(l))
	for i := range n {
		for k, s := range l {
			cells[k] = plain(s[i])
		}
		state, result[i] = step(state, cells)
	}
	return result
}

// each combines streams by a step without a state.
func each(step func(cells []api.Cell) api.Cell, l ...[]api.Cell) []api.Cell {
	stateless := func(none struct{}, cells []api.Cell) (struct{}, api.Cell) { return none, step(cells) }
	return combine(struct{}{}, stateless, l...)
}
