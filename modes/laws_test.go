package modes

import (
	"math/rand"
	"slices"
	"strconv"
	"strings"
	"testing"

	"synchrony/api"
	"synchrony/cause"
	"synchrony/clocks"
	"synchrony/scope"
	"synchrony/shape"
	"synchrony/types"
)

// someTexts calls f with programs that are the same in each run.
func someTexts(t *testing.T, seed int64, n int, f func(r *rand.Rand, p, q api.Program)) {
	t.Helper()
	r := rand.New(rand.NewSource(seed))
	for range n {
		text := someText(r)
		p := read(t, text)
		f(r, p, expand(t, text, p))
		if t.Failed() {
			t.Fatal(text)
		}
	}
}

// expectRight is P15.3 for an expanded program.
func expectRight(t *testing.T, q api.Program) {
	t.Helper()
	for i, check := range []func(p api.Program) (api.Where, api.Errno){shape.Check, scope.Check, types.Check} {
		if w, e := check(q); w != (api.Where{}) || e != api.OK {
			t.Errorf("the check %d of the expanded program returns %v, %d", i, w, int(e))
		}
	}
	if again, e := Expand(q); !shape.Same(again, q) || e != api.OK {
		t.Errorf("the expanded program is changed, or the error %d", int(e))
	}
	if !shape.Plain(q) || Count(q) != 0 || Nest(q) != 0 {
		t.Error("there are automata in the expanded program")
	}
}

// TestResult is P15.3.
func TestResult(t *testing.T) {
	plain, depths := 0, map[int]int{}
	someTexts(t, 2, 500, func(r *rand.Rand, p, q api.Program) {
		expectRight(t, q)
		depths[Nest(p)]++
		if shape.Plain(p) {
			plain++
			if !shape.Same(p, q) {
				t.Error("a plain program is changed")
			}
		}
	})
	if plain < 50 || depths[1] < 50 || depths[2] < 50 || depths[3] < 50 {
		t.Errorf("%d plain programs; the depths are %v", plain, depths)
	}
	for _, text := range []string{"", "type E = P;", fullText} {
		expectRight(t, expand(t, text, read(t, text)))
	}
}

// TestPorts: the nodes of a program keep their names, ports, assumptions and guarantees, in their order.
func TestPorts(t *testing.T) {
	someTexts(t, 3, 200, func(r *rand.Rand, p, q api.Program) {
		for _, n := range p.Nodes {
			i, ok := shape.Find(q, n.Name)
			if !ok {
				t.Fatalf("there is no node %s", n.Name)
			}
			q.Nodes = q.Nodes[i:]
			is := q.Nodes[0]
			is.Locals, is.Eqs = is.Locals[:len(n.Locals)], is.Eqs[:len(n.Eqs)]
			n.Autos = nil
			if !shape.Same(api.Program{Nodes: []api.Node{n}}, api.Program{Nodes: []api.Node{is}}) {
				t.Errorf("the node %s became %+v", n.Name, is)
			}
		}
		if len(q.Nodes) != 1 {
			t.Errorf("%d nodes are behind the last one", len(q.Nodes)-1)
		}
	})
}

// TestLeastNumbers is the section Added names: for each base, the names that are added have the least numbers that the program does not have, and there are as many of them as P15.1 tells.
func TestLeastNumbers(t *testing.T) {
	skipped := 0
	someTexts(t, 4, 300, func(r *rand.Rand, p, q api.Program) {
		want := map[string]int{}
		for _, n := range p.Nodes {
			countNames(want, n.Autos)
		}
		old := identifiers(t, p)
		var names []string
		for base, count := range want {
			for i := 1; count > 0; i++ {
				if name := base + "_" + strconv.Itoa(i); old[name] {
					skipped++
				} else {
					names = append(names, name)
					count--
				}
			}
		}
		slices.Sort(names)
		if added := addedNames(t, p, q); !slices.Equal(added, names) {
			t.Errorf("the added names are %v, want %v", added, names)
		}
	})
	if skipped < 300 {
		t.Errorf("only %d names of programs are like added ones", skipped)
	}
}

// countNames adds the numbers of the names for all bases that the automata need.
func countNames(count map[string]int, l []api.Auto) {
	for _, a := range l {
		states := len(a.States)
		for _, base := range []string{"mode", "was", "flag", "now", "reset"} {
			count[base]++
		}
		count["at"] += states
		count["body"] += states
		count["next"] += 2*states + 1
		count["back"] += 2*states + 1
		count["part"] += states * len(scope.Defined(api.Node{Autos: []api.Auto{a}}))
		for _, s := range a.States {
			count["cond"] += len(s.Unless) + len(s.Until)
			countNames(count, s.Autos)
		}
	}
}

// TestEquivalence is P15.4.
func TestEquivalence(t *testing.T) {
	instants, undefined, depths, taken := 0, 0, map[int]int{}, map[string]int{}
	someTexts(t, 5, 3000, func(r *rand.Rand, p, q api.Program) {
		if w, e := clocks.Check(q); e != api.OK {
			t.Fatalf("the clocks are wrong at %v, %d", w, int(e))
		}
		if w, e := cause.Check(q); e != api.OK {
			t.Fatalf("there is a cycle at %v, %d", w, int(e))
		}
		a, b := newRun(p), newRun(q)
		for range 12 {
			row := someRow(r, p)
			want := a.next(row)
			if a.undecided {
				break
			}
			if is := b.next(row); !slices.Equal(is, want) {
				t.Fatalf("the outputs are %v, want %v", is, want)
			}
			instants++
			depths[Nest(p)]++
			if slices.Contains(want, api.Cell{Kind: api.Undef}) {
				undefined++
			}
		}
		for word, n := range a.taken {
			taken[word] += n
		}
	})
	if instants < 20000 || undefined < 500 || depths[1] < 4000 || depths[2] < 4000 || depths[3] < 4000 {
		t.Errorf("only %d instants, %d with undefined outputs; the depths are %v", instants, undefined, depths)
	}
	if taken["unless"] < 5000 || taken["until"] < 5000 || taken["continue"] < 5000 {
		t.Errorf("only %v transitions", taken)
	}
}

// someRow returns inputs of the last node.
func someRow(r *rand.Rand, p api.Program) []int {
	var row []int
	for _, d := range p.Nodes[len(p.Nodes)-1].In {
		row = append(row, []int{r.Intn(2), r.Intn(7) - 3, r.Intn(3)}[d.Type-1])
	}
	return row
}

// TestRuns has automata whose outputs the section Semantics tells: the rows are those of an input bool, and the outputs are numbers.
func TestRuns(t *testing.T) {
	for _, c := range []struct{ text, in, want string }{
		{"automaton state A do x = 0 -> (pre x) + 1; until x >= 2 then B; done state B do x = 9; until true then A; done end", "00000000", "01290129"},
		{"automaton state A do x = 1; until true then B; done state B do x = 2; until true then A; done end", "00000", "12121"},                                    // DOC.md, 6
		{"automaton state A do x = 0 fby x + 1; until c then B; done state B do x = 8; until true then A; done end", "0010000", "0128012"},                         // restarted
		{"automaton state A do x = 0 fby x + 1; until c then B; done state B do x = 8; until true continue A; done end", "0010000", "0128345"},                     // resumed
		{"automaton state A unless c then B; do x = 0 fby x + 1; done state B unless not c then A; do x = 5 fby x + 1; done end", "0011000", "0156012"},            // at once
		{"automaton state A unless c continue B; do x = 0 fby x + 1; done state B unless not c continue A; do x = 5 fby x + 1; done end", "00110011", "01562378"},  // at once, resumed
		{"automaton state A unless c then A; do x = 0 fby x + 1; done end", "0011001", "0100120"},                                                                  // restarts itself
		{"automaton state A do x = 0 fby x + 1; until c then A; until true continue A; done end", "0011001", "0120012"},                                            // the first transition
		{"automaton state A unless c continue B; do x = 1; until true then B; done state B do x = 0 fby x + 5; until true then A; done end", "0000100", "1010510"}, // the flag of the step before, unless a transition is taken
		{"automaton state A do x = 1; until true continue B; done state B do x = 0 fby x + 5; until true then A; done end", "0000", "1015"},
		{"automaton state A do automaton state C do x = 1; until true then D; done state D do x = 2; done end until c then A; done end", "00010", "12221"},     // the inner automaton is reset
		{"automaton state A do automaton state C do x = 1; until true then D; done state D do x = 2; done end until c continue A; done end", "00010", "12222"}, // and here it is not
		{"automaton state A do automaton state C do x = 1; until true then D; done state D do x = 2; done end until c then B; done state B do x = 3; until true continue A; done end", "0001000", "1222322"},
	} {
		p := read(t, "node f(c: bool) returns (x: int) let "+c.text+" tel")
		for i, q := range []api.Program{p, expand(t, c.text, p)} {
			r := newRun(q)
			s := ""
			for _, letter := range c.in {
				s += strconv.Itoa(r.next([]int{int(letter - '0')})[0].V)
			}
			if s != c.want {
				t.Errorf("%s: the outputs are %s, want %s (expanded: %v)", c.text, s, c.want, i == 1)
			}
		}
	}
}

// TestCount is P15.2, for programs that need not be right.
func TestCount(t *testing.T) {
	auto := func(inner ...[]api.Auto) api.Auto {
		var a api.Auto
		for _, l := range inner {
			a.States = append(a.States, api.State{Autos: l})
		}
		return a
	}
	list := func(l ...api.Auto) []api.Auto { return l }
	deep := auto()
	for range 1<<16 - 1 {
		deep = auto(list(deep))
	}
	for _, c := range []struct {
		nodes       [][]api.Auto
		count, nest int
	}{
		{nil, 0, 0},
		{[][]api.Auto{nil, nil}, 0, 0},
		{[][]api.Auto{list(auto())}, 1, 1},
		{[][]api.Auto{list(auto(nil, nil))}, 1, 1},
		{[][]api.Auto{list(auto(nil, list(auto(nil))))}, 2, 2},
		{[][]api.Auto{list(auto(), auto()), list(auto())}, 3, 1},
		{[][]api.Auto{list(auto()), list(auto(list(auto(), auto(nil)), list(auto(list(auto())))), auto(list(auto()))), nil}, 8, 3},
		{[][]api.Auto{list(auto(list(auto(list(auto(nil, list(auto())))))), auto())}, 5, 4},
		{[][]api.Auto{list(deep)}, 1 << 16, 1 << 16},
	} {
		var p api.Program
		for _, l := range c.nodes {
			p.Nodes = append(p.Nodes, api.Node{Autos: l})
		}
		if count, nest := Count(p), Nest(p); count != c.count || nest != c.nest {
			t.Errorf("Count is %d and Nest is %d, want %d and %d", count, nest, c.count, c.nest)
		}
	}
	p := read(t, fullText)
	if Count(p) != 3 || Nest(p) != 2 {
		t.Errorf("Count is %d and Nest is %d of the full text", Count(p), Nest(p))
	}
	if n := strings.Count(fullText, "automaton"); n != 3 {
		t.Errorf("the full text has %d automata", n)
	}
}
