package route

import (
	"math/bits"
	"slices"

	"corrody/api"
)

// parts has for each stop the set of all stops that it is joined with, itself among them.
type parts [api.MaxNodes]int

// Tree returns the first of the smallest trees for stops with the least cost.
func Tree(m Map, stops int) ([]int, api.Errno) {
	if !m.canAsk(stops) {
		return nil, api.ErrArg
	}
	var best []int
	least := beyond
	var grow func(tree []int, cost, from int, p parts)
	grow = func(tree []int, cost, from int, p parts) {
		if p.connect(stops) {
			// Of trees with equally many roads the first one is grown first.
			if cost < least || cost == least && len(tree) < len(best) {
				best, least = slices.Clone(tree), cost
			}
			return
		}
		for at := from; at < len(m.Roads); at++ {
			next := p.joined(m.Roads[at])
			if next != p && cost+m.Roads[at].Cost <= least {
				grow(append(tree, at), cost+m.Roads[at].Cost, at+1, next)
			}
		}
	}
	grow(nil, 0, 0, apart())
	if least == beyond {
		return nil, api.ErrNone
	}
	return best, api.OK
}

// CheckTree reports whether roads are a tree for stops, and its cost.
func CheckTree(m Map, stops int, tree []int) (int, bool, api.Errno) {
	if !m.canAsk(stops) {
		return 0, false, api.ErrArg
	}
	cost, reached, p := 0, stops, apart()
	for place, at := range tree {
		if at < 0 || at >= len(m.Roads) || place > 0 && at <= tree[place-1] {
			return 0, false, api.OK
		}
		road := m.Roads[at]
		next := p.joined(road)
		if next == p {
			return 0, false, api.OK
		}
		p = next
		cost += road.Cost
		reached |= 1<<road.A | 1<<road.B
	}
	if !p.connect(reached) {
		return 0, false, api.OK
	}
	return cost, true, api.OK
}

// Spanning returns the first tree for all stops with the least cost.
func Spanning(m Map) ([]int, api.Errno) {
	if !m.valid() {
		return nil, api.ErrArg
	}
	// All trees for all stops have equally many roads, so that the first of the smallest is the first.
	return Tree(m, 1<<m.N-1)
}

// apart returns the parts before any road joins them.
func apart() parts {
	var p parts
	for stop := range p {
		p[stop] = 1 << stop
	}
	return p
}

// joined returns the parts after a road joins them. They are the same if it closes a cycle.
func (p parts) joined(road Road) parts {
	set := p[road.A] | p[road.B]
	for stop := range p {
		if has(set, stop) {
			p[stop] = set
		}
	}
	return p
}

// connect reports whether all of some stops are in one part.
func (p parts) connect(stops int) bool {
	first := bits.TrailingZeros(uint(stops))
	return p[first]&stops == stops
}
