package scope

import "synchrony/api"

// collector collects the names that are defined, each once.
type collector struct {
	names  []string
	seen   map[string]bool
	hidden map[string]int // how many of the enclosing states have a local with the name
}

func newCollector() *collector {
	return &collector{seen: map[string]bool{}, hidden: map[string]int{}}
}

// definitions returns the names that equations and automata define.
func definitions(eqs []api.Eq, autos []api.Auto) []string {
	c := newCollector()
	c.body(eqs, autos)
	return c.names
}

// definedBy returns the names that a state defines.
func definedBy(s api.State) []string {
	c := newCollector()
	c.state(s)
	return c.names
}

func (c *collector) body(eqs []api.Eq, autos []api.Auto) {
	for _, x := range eqs {
		for _, name := range x.Left {
			c.add(name)
		}
	}
	for _, a := range autos {
		if len(a.States) > 0 {
			c.state(a.States[0])
		}
	}
}

func (c *collector) add(name string) {
	if c.hidden[name] == 0 && !c.seen[name] {
		c.seen[name] = true
		c.names = append(c.names, name)
	}
}

func (c *collector) state(s api.State) {
	for _, d := range s.Locals {
		c.hidden[d.Name]++
	}
	c.body(s.Eqs, s.Autos)
	for _, d := range s.Locals {
		c.hidden[d.Name]--
	}
}
