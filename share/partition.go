package share

import "slices"

// partition divides the numbers from 0 on into parts.
type partition struct {
	items []int // the numbers, those of a part next to each other
	place []int // where each number is in items
	part  []int // in which part each number is
	parts []stretch
}

// stretch is where the numbers of a part are in items.
type stretch struct {
	from   int
	to     int
	marked int // how many of the first ones are marked
}

// grouped returns the partition of the items in which neighbours are in one part if they are the same.
func grouped(items []int, same func(a, b int) bool) *partition {
	p := &partition{items: items, place: make([]int, len(items)), part: make([]int, len(items))}
	for i, x := range items {
		if i == 0 || !same(items[i-1], x) {
			p.parts = append(p.parts, stretch{from: i})
		}
		last := len(p.parts) - 1
		p.parts[last].to = i + 1
		p.place[x], p.part[x] = i, last
	}
	return p
}

// refine divides parts until the numbers of each part read numbers of one part, or none of them reads any; a number reads at most one. Each part divides all others once, and that of two halves that is added is the smaller one; so all of this takes about linear time.
func (p *partition) refine(readers [][]int) {
	for k := 0; k < len(p.parts); k++ {
		var touched []int // the parts with marked numbers
		for _, x := range slices.Clone(p.items[p.parts[k].from:p.parts[k].to]) {
			for _, reader := range readers[x] {
				if p.mark(reader) {
					touched = append(touched, p.part[reader])
				}
			}
		}
		for _, part := range touched {
			p.split(part)
		}
	}
}

// mark marks a number that is not marked, and reports whether it is the first one in its part.
func (p *partition) mark(x int) bool {
	k := &p.parts[p.part[x]]
	i := k.from + k.marked
	other := p.items[i]
	p.items[i], p.items[p.place[x]] = x, other
	p.place[x], p.place[other] = i, p.place[x]
	k.marked++
	return k.marked == 1
}

// split divides a part into what is marked and what is not, if there is both; afterwards nothing in it is marked.
func (p *partition) split(part int) {
	k := &p.parts[part]
	from, to, middle := k.from, k.to, k.from+k.marked
	k.marked = 0
	switch {
	case middle == to:
		return
	case middle-from < to-middle:
		k.from, to = middle, middle
	default:
		k.to, from = middle, middle
	}
	for _, x := range p.items[from:to] {
		p.part[x] = len(p.parts)
	}
	p.parts = append(p.parts, stretch{from: from, to: to})
}
