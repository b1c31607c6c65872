package sim

import (
	"math/rand"
	"reflect"
	"strconv"
	"strings"
	"testing"

	"synchrony/api"
	"synchrony/parse"
)

var undefined = api.Cell{Kind: api.Undef}

func is(v int) api.Cell { return api.Cell{Kind: api.Present, V: v} }

// read returns the program with this text.
func read(t *testing.T, text string) api.Program {
	t.Helper()
	p, at, e := parse.Program(text)
	if e != api.OK {
		t.Fatalf("the error %d at %.30q in %s", int(e), text[at:], text)
	}
	return p
}

// last returns the name of the last node.
func last(p api.Program) string { return p.Nodes[len(p.Nodes)-1].Name }

// start returns an execution of the last node.
func start(t *testing.T, p api.Program) *Sim {
	t.Helper()
	s, e := New(p, last(p))
	if e != api.OK || s == nil {
		t.Fatalf("New returns the error %d", int(e))
	}
	return s
}

// step executes an instant and returns the outputs.
func step(t *testing.T, s *Sim, in ...int) []api.Cell {
	t.Helper()
	l, e := s.Step(in)
	if e != api.OK {
		t.Fatalf("Step returns the error %d", int(e))
	}
	return l
}

// rowsOf reads rows: values are separated by commas, rows by spaces; a row without values is "-".
func rowsOf(s string) [][]int {
	var rows [][]int
	for field := range strings.FieldsSeq(s) {
		var row []int
		for word := range strings.SplitSeq(field, ",") {
			if v, e := strconv.Atoi(word); e == nil {
				row = append(row, v)
			}
		}
		rows = append(rows, row)
	}
	return rows
}

// text writes cells: a value, "." for an absent cell, "?" for an undefined one.
func text(l []api.Cell) string {
	var words []string
	for _, c := range l {
		switch {
		case c.Kind == api.Present:
			words = append(words, strconv.Itoa(c.V))
		case c == undefined:
			words = append(words, "?")
		case c == api.Cell{}:
			words = append(words, ".")
		default:
			words = append(words, "a wrong cell")
		}
	}
	return strings.Join(words, " ")
}

// history executes the last node and returns, for each name, the cells that the variable had.
func history(t *testing.T, p api.Program, rows [][]int, names []string) [][]api.Cell {
	t.Helper()
	s := start(t, p)
	l := make([][]api.Cell, len(names))
	for _, in := range rows {
		step(t, s, in...)
		for i, name := range names {
			c, ok := s.Look(name)
			if !ok {
				t.Fatalf("there is no variable %s", name)
			}
			l[i] = append(l[i], c)
		}
	}
	return l
}

// example is a program, the rows of inputs of its last node, and what variables have: "x: 1 2 3; y: . . 3".
type example struct{ program, rows, want string }

func (x example) check(t *testing.T) {
	t.Helper()
	p, rows := read(t, x.program), rowsOf(x.rows)
	for part := range strings.SplitSeq(x.want, ";") {
		name, want, _ := strings.Cut(strings.TrimSpace(part), ": ")
		if l := text(history(t, p, rows, []string{name})[0]); l != want {
			t.Errorf("%s\nwith %s: %s is %s, want %s", x.program, x.rows, name, l, want)
		}
	}
}

// someRows returns n rows of inputs of the last node, whose enumerations have three tags.
func someRows(r *rand.Rand, p api.Program, n int) [][]int {
	var rows [][]int
	for range n {
		var row []int
		for _, d := range p.Nodes[len(p.Nodes)-1].In {
			switch d.Type {
			case api.TBool:
				row = append(row, r.Intn(2))
			case api.TInt:
				row = append(row, r.Intn(7)-3)
			default:
				row = append(row, r.Intn(3))
			}
		}
		rows = append(rows, row)
	}
	return rows
}

// scramble changes all that v contains, in its memory.
func scramble(v reflect.Value) {
	switch v.Kind() {
	case reflect.Struct:
		for i := range v.NumField() {
			scramble(v.Field(i))
		}
	case reflect.Slice:
		for i := range v.Len() {
			scramble(v.Index(i))
		}
	case reflect.Int:
		v.SetInt(v.Int() + 1)
	case reflect.String:
		v.SetString("scrambled")
	case reflect.Bool:
		v.SetBool(!v.Bool())
	}
}
