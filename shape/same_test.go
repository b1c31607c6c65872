package shape

import (
	"reflect"
	"testing"

	"synchrony/api"
)

// The tests of Find, Plain and Same are P7.3.

func TestFind(t *testing.T) {
	p := api.Program{Nodes: []api.Node{{Name: "f"}, {Name: "g"}, {Name: "f"}, {Name: ""}, {Name: "g"}}}
	for name, want := range map[string]int{"f": 0, "g": 1, "": 3} {
		if i, ok := Find(p, name); i != want || !ok {
			t.Errorf("Find of %q = %d, %v, want %d", name, i, ok, want)
		}
	}
	for _, name := range []string{"h", "F", "ff", " f"} {
		if i, ok := Find(p, name); i != 0 || ok {
			t.Errorf("Find of %q = %d, %v", name, i, ok)
		}
	}
	if i, ok := Find(api.Program{}, ""); i != 0 || ok {
		t.Errorf("Find in nothing = %d, %v", i, ok)
	}
}

func TestPlain(t *testing.T) {
	p := full()
	if Plain(p) {
		t.Error("two nodes with automata")
	}
	p.Nodes[1].Autos = nil
	if Plain(p) {
		t.Error("one node with automata")
	}
	p.Nodes[0].Autos = []api.Auto{}
	if !Plain(p) || !Plain(api.Program{}) {
		t.Error("no automata")
	}
	p.Nodes[1].Autos = make([]api.Auto, 1)
	if Plain(p) {
		t.Error("an automaton without states")
	}
}

// differ checks that Same distinguishes the two programs.
func differ(t *testing.T, what string, p, q api.Program) {
	t.Helper()
	if Same(p, q) || Same(q, p) {
		t.Errorf("Same, but for %s", what)
	}
}

// TestSame changes each part of the full program, and all its lists.
func TestSame(t *testing.T) {
	p, q := full(), full()
	if !Same(p, q) || !Same(p, p) || !Same(api.Program{}, api.Program{}) {
		t.Error("equal programs are not Same")
	}
	changes := 0
	parts(reflect.ValueOf(&q).Elem(), func(v reflect.Value) {
		old := reflect.ValueOf(v.Interface())
		switch v.Kind() {
		case reflect.Int:
			v.SetInt(v.Int() + 1)
		case reflect.String:
			v.SetString(v.String() + "x")
		case reflect.Bool:
			v.SetBool(!v.Bool())
		case reflect.Slice:
			v.Set(reflect.Append(v, reflect.Zero(v.Type().Elem())))
			differ(t, "an element more of "+v.Type().String(), p, q)
			v.Set(old)
			if v.Len() == 0 {
				return
			}
			v.Set(v.Slice(0, v.Len()-1))
		default:
			return
		}
		differ(t, "a changed "+v.Type().String(), p, q)
		v.Set(old)
		changes++
	})
	if !Same(p, q) || changes < 1000 {
		t.Errorf("after %d changes", changes)
	}
}

func TestSameOfOrders(t *testing.T) {
	p, q := full(), full()
	q.Nodes[0], q.Nodes[1] = q.Nodes[1], q.Nodes[0]
	differ(t, "the order of nodes", p, q)
	q = full()
	q.Enums[0].Tags[0], q.Enums[0].Tags[1] = q.Enums[0].Tags[1], q.Enums[0].Tags[0]
	differ(t, "the order of tags", p, q)
	q = full()
	q.Nodes[0].Eqs[0], q.Nodes[0].Eqs[1] = q.Nodes[0].Eqs[1], q.Nodes[0].Eqs[0]
	differ(t, "the order of equations", p, q)
	q = full()
	q.Nodes[0].In, q.Nodes[0].Out = q.Nodes[0].Out, q.Nodes[0].In
	differ(t, "inputs and outputs", p, q)
	q = full()
	q.Nodes[0].Assume, q.Nodes[0].Ensure = q.Nodes[0].Ensure, q.Nodes[0].Assume
	differ(t, "assumptions and guarantees", p, q)
}

// TestSameOfNil: lists without elements are equal.
func TestSameOfNil(t *testing.T) {
	p, q := full(), full()
	parts(reflect.ValueOf(&q).Elem(), func(v reflect.Value) {
		if v.Kind() == reflect.Slice && v.IsNil() {
			v.Set(reflect.MakeSlice(v.Type(), 0, 1))
		}
	})
	if reflect.DeepEqual(p, q) || !Same(p, q) || !Same(q, p) {
		t.Error("nil and empty lists differ")
	}
	if !Same(api.Program{}, api.Program{Enums: []api.Enum{}, Nodes: []api.Node{}}) {
		t.Error("nil and empty programs differ")
	}
}

// TestPartsStay is rule 4: the arguments stay as they are.
func TestPartsStay(t *testing.T) {
	p, q := full(), full()
	Check(p)
	Find(p, "g")
	Plain(p)
	Same(p, q)
	if !reflect.DeepEqual(p, full()) || !reflect.DeepEqual(q, full()) {
		t.Error("a program became another one")
	}
}
