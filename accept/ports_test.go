package accept

import (
	"math/rand"
	"reflect"
	"testing"

	"synchrony/api"
	"synchrony/modes"
	"synchrony/shape"
	"synchrony/sim"
)

// TestPlain is P18.2.
func TestPlain(t *testing.T) {
	for _, text := range []string{
		"", "type E = P | Q;", "node f(a: int) returns (x: int) let x = a; tel", fullText,
		"node f() returns (x: int) let automaton state A do x = 0; until true then B; done state B do x = 1; until true then A; done end tel",
	} {
		p := read(t, text)
		q, e := Plain(p)
		if e != api.OK || !shape.Plain(q) {
			t.Fatalf("%s: Plain returns the error %d", text, int(e))
		}
		expectCheck(t, "the plain program", q, api.Where{}, api.OK)
		if want, _ := modes.Expand(p); !shape.Same(q, want) || shape.Plain(p) && !shape.Same(q, p) {
			t.Errorf("%s: the plain program is not the expanded one", text)
		}
		if again, e := Plain(q); e != api.OK || !shape.Same(again, q) {
			t.Errorf("%s: the plain program of the plain program is another one", text)
		}
		for _, n := range p.Nodes {
			in, out, e := Ports(q, n.Name)
			if e != api.OK || !sameDecls(in, n.In) || !sameDecls(out, n.Out) {
				t.Errorf("%s: the ports of %s became %v and %v", text, n.Name, in, out)
			}
		}
		scramble(reflect.ValueOf(&q).Elem())
		if !shape.Same(p, read(t, text)) {
			t.Errorf("%s: the plain program shares memory with the program", text)
		}
	}
}

func sameDecls(a, b []api.Decl) bool {
	node := func(l []api.Decl) api.Program { return api.Program{Nodes: []api.Node{{In: l}}} }
	return shape.Same(node(a), node(b))
}

func TestPorts(t *testing.T) {
	p := full(t)
	for _, x := range []struct {
		name    string
		in, out []api.Decl
	}{
		{"count", []api.Decl{{Name: "r", Type: api.TBool}}, []api.Decl{{Name: "n", Type: api.TInt}}},
		{"pair", []api.Decl{{Name: "a", Type: api.TInt}, {Name: "l", Type: api.TEnum}}, []api.Decl{{Name: "x", Type: api.TInt}, {Name: "m", Type: api.TEnum}}},
		{"main", []api.Decl{{Name: "a", Type: api.TInt}, {Name: "stop", Type: api.TBool}}, []api.Decl{{Name: "x", Type: api.TInt}, {Name: "busy", Type: api.TBool}, {Name: "l", Type: api.TEnum}}},
	} {
		for range 2 {
			in, out, e := Ports(p, x.name)
			if e != api.OK || !sameDecls(in, x.in) || !sameDecls(out, x.out) {
				t.Errorf("Ports of %s returns %v, %v and the error %d", x.name, in, out, int(e))
			}
			scramble(reflect.ValueOf(in))
			scramble(reflect.ValueOf(out))
		}
	}
	if !shape.Same(p, full(t)) {
		t.Error("the ports share memory with the program")
	}
	for _, name := range []string{"", "none", "a", "Idle", "body_1", "Light"} {
		if in, out, e := Ports(p, name); e != api.ErrName || in != nil || out != nil {
			t.Errorf("Ports of %q returns %v, %v and the error %d", name, in, out, int(e))
		}
	}
	in, out, e := Ports(read(t, "node f() returns (x: int) let x = 1; tel"), "f")
	if e != api.OK || len(in) != 0 || len(out) != 1 {
		t.Errorf("Ports of a node without inputs returns %v, %v and the error %d", in, out, int(e))
	}
}

// TestDefinedness is P18.3; package sim has the test for programs of all kinds.
func TestDefinedness(t *testing.T) {
	r := rand.New(rand.NewSource(2))
	p := full(t)
	q, _ := Plain(p)
	for _, n := range p.Nodes {
		for range 30 {
			var rows [][]int
			for range 60 {
				var row []int
				for _, d := range n.In {
					row = append(row, []int{r.Intn(2), r.Intn(9) - 2, r.Intn(3)}[d.Type-api.TBool])
				}
				rows = append(rows, row)
			}
			l, e := sim.Run(p, n.Name, rows)
			if e != api.OK {
				t.Fatalf("Run of %s returns the error %d", n.Name, int(e))
			}
			for i, out := range l {
				for k, c := range out {
					if c.Kind != api.Present {
						t.Errorf("the output %s of %s is %v at the time %d", n.Out[k].Name, n.Name, c, i)
					}
				}
			}
			if plain, _ := sim.Run(q, n.Name, rows); !reflect.DeepEqual(plain, l) {
				t.Errorf("%s of the plain program has other outputs", n.Name)
			}
		}
	}
}
