package starts

import (
	"math/rand"
	"slices"
	"testing"

	"synchrony/api"
	"synchrony/expr"
)

// somePrograms calls f with programs whose clocks are right, and with their texts; they are the same in each run.
func somePrograms(t *testing.T, n int, m maker, f func(p api.Program, text string)) {
	t.Helper()
	for range n {
		next := m
		text := next.program()
		f(read(t, text), text)
		if t.Failed() {
			t.Fatal(text)
		}
	}
}

// TestReference compares P13.1 to P13.3 with a reference.
func TestReference(t *testing.T) {
	r := rand.New(rand.NewSource(13))
	places, kinds, late := map[api.Where]int{}, map[int]int{}, 0
	somePrograms(t, 3000, maker{r: r, care: 12}, func(p api.Program, text string) {
		where, want := reference(p)
		expectCheck(t, "some program", text, where, want)
		places[where]++
		for i, n := range p.Nodes {
			set := leastSet(n)
			var names []string
			for _, d := range slices.Concat(n.In, n.Out, n.Locals) {
				if set[d.Name] {
					names = append(names, d.Name)
				}
			}
			late += len(names)
			expectLate(t, "some program", p, i, names, api.OK)
			x := n.Eqs[r.Intn(len(n.Eqs))]
			for e := range expr.Each(x.Right) {
				kinds[e.Kind]++
				if e.Kind != api.ECall {
					expectOf(t, "some expression", p, i, e, lateUnder(set, e), api.OK)
				}
			}
		}
	})
	for kind := api.EConst; kind <= api.EWord; kind++ {
		if kinds[kind] < 400 {
			t.Errorf("only %d expressions of the kind %d", kinds[kind], kind)
		}
	}
	if len(places) < 20 || places[api.Where{}] > 2700 || late < 1000 {
		t.Errorf("%d late variables, and errors at the places %v", late, places)
	}
}

// TestCareful: a program without misuses is accepted, whether or not a variable depends on itself.
func TestCareful(t *testing.T) {
	for _, causal := range []bool{false, true} {
		somePrograms(t, 500, maker{r: rand.New(rand.NewSource(14)), causal: causal}, func(p api.Program, text string) {
			expectCheck(t, "a careful program", text, api.Where{}, api.OK)
		})
	}
}

// someRow returns values for the inputs of a node.
func someRow(r *rand.Rand, n api.Node) []api.Cell {
	var l []api.Cell
	for _, d := range n.In {
		l = append(l, api.Cell{Kind: api.Present, V: r.Intn([]int{api.TBool: 2, api.TInt: 10, api.TEnum: 3}[d.Type])})
	}
	return l
}

// TestDefined is P13.4, with an execution that is independent of the interpreter.
func TestDefined(t *testing.T) {
	r := rand.New(rand.NewSource(15))
	counts := map[api.Errno]map[string]int{api.OK: {}, api.ErrInit: {}}
	somePrograms(t, 3000, maker{r: r, causal: true, care: 60}, func(p api.Program, text string) {
		_, err := Check(p)
		if counts[err] == nil {
			t.Fatalf("Check: error %d of\n%s", int(err), text)
		}
		counts[err]["programs"]++
		main := newInstance(p, len(p.Nodes)-1, func(what string) { counts[err][what]++ })
		for range 12 {
			main.step(someRow(r, main.node()))
		}
		for _, what := range []string{notLate, again, used} {
			if counts[api.OK][what] > 0 {
				t.Error("in a program that is accepted, " + what)
			}
		}
	})
	for _, what := range []string{undefined, notLate, again, used} {
		if counts[api.ErrInit][what] < 200 {
			t.Errorf("only %d times, in programs that are rejected, %s", counts[api.ErrInit][what], what)
		}
	}
	if counts[api.OK]["programs"] < 2000 || counts[api.OK][undefined] < 500 {
		t.Errorf("only %v in programs that are accepted", counts[api.OK])
	}
}
