package sim

import (
	"math/rand"
	"reflect"
	"slices"
	"strings"
	"testing"

	"synchrony/accept"
	"synchrony/api"
	"synchrony/modes"
	"synchrony/samples"
	"synchrony/scope"
	"synchrony/show"
)

// maker says which programs are made.
type maker struct{ autos, pres int }

// somePrograms calls f with programs that are the same in each run.
func somePrograms(t *testing.T, seed int64, n int, make maker, f func(r *rand.Rand, p api.Program)) {
	t.Helper()
	r := rand.New(rand.NewSource(seed))
	for range n {
		p := samples.Source(r.Intn, make.autos, make.pres)
		f(r, p)
		if t.Failed() {
			s, _ := show.Program(p)
			t.Fatal(s)
		}
	}
}

func varsOf(n api.Node) []string {
	var l []string
	for _, d := range scope.Vars(n) {
		l = append(l, d.Name)
	}
	return l
}

// TestStreams compares P17.2 and P17.3 with streams, for plain programs.
func TestStreams(t *testing.T) {
	const instants = 8
	kinds := map[int]int{}
	somePrograms(t, 1, 1500, maker{pres: 10}, func(r *rand.Rand, p api.Program) {
		rows := someRows(r, p, instants)
		node := len(p.Nodes) - 1
		n := p.Nodes[node]
		inputs := make([][]api.Cell, len(n.In))
		for _, row := range rows {
			for i, v := range row {
				inputs[i] = append(inputs[i], is(v))
			}
		}
		want := solve(p, node, inputs, instants)
		names := varsOf(n)
		for i, l := range history(t, p, rows, names) {
			if !slices.Equal(l, want.vars[names[i]]) {
				t.Errorf("with %v %s is %s, want %s", rows, names[i], text(l), text(want.vars[names[i]]))
			}
			for _, c := range l {
				kinds[c.Kind]++
			}
		}
		outputs, _ := Run(p, n.Name, rows)
		for k, l := range outputs {
			for i, d := range n.Out {
				if len(l) != len(n.Out) || l[i] != want.vars[d.Name][k] {
					t.Errorf("with %v the outputs at %d are %v", rows, k, l)
				}
			}
		}
		compareClaims(t, p, rows, want)
	})
	if kinds[api.Absent] < 5000 || kinds[api.Undef] < 5000 || kinds[api.Present] < 50000 {
		t.Errorf("the kinds of the cells are %v", kinds)
	}
}

// compareClaims compares P17.3 for Assumed and Ensured with streams.
func compareClaims(t *testing.T, p api.Program, rows [][]int, want streams) {
	t.Helper()
	n := p.Nodes[len(p.Nodes)-1]
	s := start(t, p)
	for k, row := range rows {
		step(t, s, row...)
		for i, l := range [][]api.Expr{n.Assume, n.Ensure} {
			c := is(1)
			for _, e := range l {
				switch x := want.stream(e, nil, len(rows))[k]; {
				case x == undefined || c == undefined:
					c = undefined
				case x == is(0):
					c = x
				}
			}
			if got := []api.Cell{s.Assumed(), s.Ensured()}[i]; got != c {
				t.Errorf("with %v the claims %d at %d are %v, want %v", rows, i, k, got, c)
			}
		}
	}
}

// undecided reports whether a variable for a condition of an expanded program is undefined.
func undecided(in *instance) bool {
	for name, slot := range in.plan.slots {
		if strings.HasPrefix(name, "cond_") && in.cells[slot] == undefined {
			return true
		}
	}
	return slices.ContainsFunc(in.inner, func(x *instance) bool { return x != nil && undecided(x) })
}

// TestExpansion is G3, and P17.2 for automata: they are executed like the expanded program.
func TestExpansion(t *testing.T) {
	for _, pres := range []int{0, 10} {
		instants, depths, cells := 0, map[int]int{}, map[int]int{}
		somePrograms(t, 2, 600, maker{pres: pres, autos: 6}, func(r *rand.Rand, p api.Program) {
			q, e := modes.Expand(p)
			if e != api.OK {
				t.Fatalf("Expand returns the error %d", int(e))
			}
			a, b := start(t, p), start(t, q)
			names := varsOf(p.Nodes[len(p.Nodes)-1])
			for _, row := range someRows(r, p, 12) {
				is, want := step(t, a, row...), step(t, b, row...)
				if undecided(b.main) {
					break
				}
				if !slices.Equal(is, want) || a.Assumed() != b.Assumed() || a.Ensured() != b.Ensured() {
					t.Errorf("the outputs at the time %d are %s, want %s", a.Time(), text(is), text(want))
				}
				for _, name := range names {
					is, _ := a.Look(name)
					if want, ok := b.Look(name); is != want || !ok {
						t.Errorf("%s at the time %d is %v, want %v", name, a.Time(), is, want)
					}
					cells[is.Kind]++
				}
				instants++
				depths[modes.Nest(p)]++
			}
		})
		if instants < 2000 || depths[1] < 400 || depths[2] < 400 || depths[3] < 400 {
			t.Errorf("only %d instants; the depths are %v", instants, depths)
		}
		if (cells[api.Undef] > 200) != (pres > 0) || cells[api.Absent] < 2000 {
			t.Errorf("the kinds of the cells are %v", cells)
		}
	}
}

// TestDefinedness is G2 and P18.3.
func TestDefinedness(t *testing.T) {
	accepted, refused, undefinedLocals := 0, 0, 0
	somePrograms(t, 3, 1500, maker{pres: 1, autos: 3}, func(r *rand.Rand, p api.Program) {
		if _, e := accept.Check(p); e != api.OK {
			if e != api.ErrInit {
				t.Errorf("the program is refused with the error %d", int(e))
			}
			refused++
			return
		}
		accepted++
		for _, n := range p.Nodes {
			s, _ := New(p, n.Name)
			for _, row := range someRows(r, api.Program{Nodes: []api.Node{n}}, 10) {
				for i, c := range step(t, s, row...) {
					if c.Kind != api.Present || !inType(n.Out[i].Type, c.V) {
						t.Errorf("the output %s of %s is %v at the time %d", n.Out[i].Name, n.Name, c, s.Time())
					}
				}
				if s.Assumed().Kind != api.Present || s.Ensured().Kind != api.Present {
					t.Errorf("a claim of %s is undefined at the time %d", n.Name, s.Time())
				}
				for _, d := range n.Locals {
					if c, _ := s.Look(d.Name); c == undefined {
						undefinedLocals++
					}
				}
			}
		}
	})
	if accepted < 400 || refused < 200 || undefinedLocals == 0 {
		t.Errorf("%d programs are accepted, %d refused; %d undefined locals", accepted, refused, undefinedLocals)
	}
}

func inType(t, v int) bool {
	return v >= 0 && v < 2 && t == api.TBool || v >= 0 && v < 3 && t == api.TEnum || v >= api.MinInt && v <= api.MaxInt && t == api.TInt
}

// TestPrefix is P17.6: the outputs depend on the inputs so far only, and after Reset everything is as at the beginning.
func TestPrefix(t *testing.T) {
	somePrograms(t, 4, 400, maker{pres: 10, autos: 4}, func(r *rand.Rand, p api.Program) {
		rows, other := someRows(r, p, 10), someRows(r, p, 10)
		all, e := Run(p, last(p), rows)
		if e != api.OK {
			t.Fatalf("Run returns the error %d", int(e))
		}
		k := r.Intn(len(rows) + 1)
		changed, _ := Run(p, last(p), slices.Concat(rows[:k], other[k:]))
		short, _ := Run(p, last(p), rows[:k])
		if !reflect.DeepEqual(changed[:k], all[:k]) || len(short) != k || k > 0 && !reflect.DeepEqual(short, all[:k]) {
			t.Errorf("the outputs of %d rows depend on later ones", k)
		}
		s := start(t, p)
		for _, row := range other[:k] {
			step(t, s, row...)
		}
		s.Reset()
		if s.Time() != 0 {
			t.Errorf("the time is %d after Reset", s.Time())
		}
		expectOutputs(t, s, rows, all)
	})
}

// expectOutputs executes s with the rows.
func expectOutputs(t *testing.T, s *Sim, rows [][]int, want [][]api.Cell) {
	t.Helper()
	for i, row := range rows {
		before := s.Time()
		if l := step(t, s, row...); !slices.Equal(l, want[i]) || s.Time() != before+1 {
			t.Errorf("the outputs at the time %d are %s, want %s", before, text(l), text(want[i]))
		}
	}
}

// TestCopy is P17.4: a copy goes on as the original one does, and neither concerns the other.
func TestCopy(t *testing.T) {
	somePrograms(t, 5, 400, maker{pres: 10, autos: 4}, func(r *rand.Rand, p api.Program) {
		names := varsOf(p.Nodes[len(p.Nodes)-1])
		rows, other := someRows(r, p, 10), someRows(r, p, 10)
		all, _ := Run(p, last(p), rows)
		k := r.Intn(len(rows) + 1)
		s := start(t, p)
		expectOutputs(t, s, rows[:k], all)
		copies := []*Sim{s.Copy(), s.Copy(), s.Copy()}
		for _, c := range copies {
			if c.Time() != k || c.Assumed() != s.Assumed() || c.Ensured() != s.Ensured() {
				t.Errorf("the time of the copy is %d, want %d", c.Time(), k)
			}
			for _, name := range names {
				is, ok := c.Look(name)
				if want, found := s.Look(name); is != want || ok != found {
					t.Errorf("%s is %v in the copy, want %v", name, is, want)
				}
			}
		}
		for _, row := range other {
			step(t, copies[0], row...)
		}
		copies[1].Reset()
		expectOutputs(t, copies[1], rows, all)
		again := copies[2].Copy()
		expectOutputs(t, s, rows[k:], all[k:])
		s.Reset()
		expectOutputs(t, copies[2], rows[k:], all[k:])
		expectOutputs(t, again, rows[k:], all[k:])
	})
}

// TestClocks is P17.7.
func TestClocks(t *testing.T) {
	there := map[bool]int{}
	somePrograms(t, 6, 600, maker{pres: 10, autos: 3}, func(r *rand.Rand, p api.Program) {
		s, vars := start(t, p), scope.Vars(p.Nodes[len(p.Nodes)-1])
		for _, row := range someRows(r, p, 10) {
			step(t, s, row...)
			for _, d := range vars {
				active := true
				for _, on := range d.Clock {
					c, _ := s.Look(on.Name)
					active = active && c == is(on.Tag)
				}
				if c, ok := s.Look(d.Name); !ok || (c.Kind != api.Absent) != active {
					t.Errorf("%s is %v at the time %d, while its clock is active: %v", d.Name, c, s.Time(), active)
				}
				there[active]++
			}
		}
	})
	if there[false] < 2000 || there[true] < 2000 {
		t.Errorf("the clocks are active: %v", there)
	}
}

// TestMemory: an execution shares no memory with the program, the rows and the results.
func TestMemory(t *testing.T) {
	somePrograms(t, 7, 300, maker{pres: 10, autos: 4}, func(r *rand.Rand, p api.Program) {
		node, rows := last(p), someRows(r, p, 8)
		all, _ := Run(p, node, rows)
		tr, _ := Trace(p, node, rows)
		before, _ := show.Program(p)
		s := start(t, p)
		if after, _ := show.Program(p); after != before {
			t.Error("the program became another one")
		}
		scramble(reflect.ValueOf(&p).Elem())
		p.Enums[0].Tags = nil
		for i, row := range rows {
			row = slices.Clone(row)
			l := step(t, s, row...)
			if !slices.Equal(l, all[i]) || !slices.Equal(tr.Rows[i][len(row):], l) {
				t.Errorf("the outputs at %d are %s, want %s", i, text(l), text(all[i]))
			}
			scramble(reflect.ValueOf(row))
			scramble(reflect.ValueOf(l))
			scramble(reflect.ValueOf(all[i]))
			scramble(reflect.ValueOf(tr.Rows[i]))
		}
	})
}
