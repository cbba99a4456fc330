package route

import (
	"slices"

	"corrody/api"
)

const (
	// noWay is the distance, in results, where there is no way.
	noWay        = -1
	maxPotential = 1000
)

// table has a cost for each two stops.
type table [api.MaxNodes][api.MaxNodes]int

// Distances returns all distances.
func Distances(m Map) ([][]int, api.Errno) {
	if !m.valid() {
		return nil, api.ErrArg
	}
	far := m.distances()
	rows := make([][]int, m.N)
	for a := range rows {
		for _, cost := range far[a][:m.N] {
			if cost == beyond {
				cost = noWay
			}
			rows[a] = append(rows[a], cost)
		}
	}
	return rows, api.OK
}

// Way returns the first of the shortest ways with the least cost.
func Way(m Map, a, b int) ([]int, api.Errno) {
	if !m.valid() || !m.isStop(a) || !m.isStop(b) {
		return nil, api.ErrArg
	}
	steps, far := m.steps(), m.distances()
	if far[a][b] == beyond {
		return nil, api.ErrNone
	}
	var best []int
	var grow func(way []int)
	grow = func(way []int) {
		at := way[len(way)-1]
		if at == b {
			// Of ways with equally many stops the first one is grown first.
			if best == nil || len(way) < len(best) {
				best = slices.Clone(way)
			}
			return
		}
		for next := range m.N {
			// Every step brings the end nearer by its cost, so that no stop comes twice.
			if next != at && steps[at][next]+far[next][b] == far[at][b] {
				grow(append(way, next))
			}
		}
	}
	grow([]int{a})
	return best, api.OK
}

// CheckWay reports whether potentials prove that a way has the least cost.
func CheckWay(m Map, way, potentials []int) (bool, api.Errno) {
	if !m.valid() {
		return false, api.ErrArg
	}
	cost, ok := m.wayCost(way)
	if !ok || !m.areBounds(potentials) {
		return false, api.OK
	}
	return potentials[way[len(way)-1]]-potentials[way[0]] == cost, api.OK
}

// Potentials returns the distances from a stop from which all stops can be reached.
func Potentials(m Map, a int) ([]int, api.Errno) {
	if !m.valid() || !m.isStop(a) {
		return nil, api.ErrArg
	}
	far := m.distances()
	row := far[a][:m.N]
	if slices.Contains(row, beyond) {
		return nil, api.ErrNone
	}
	return slices.Clone(row), api.OK
}

// steps returns the least cost of the roads between each two stops.
func (m Map) steps() table {
	var steps table
	for a := range m.N {
		for b := range m.N {
			if a != b {
				steps[a][b] = beyond
			}
		}
	}
	for _, road := range m.Roads {
		least := min(steps[road.A][road.B], road.Cost)
		steps[road.A][road.B], steps[road.B][road.A] = least, least
	}
	return steps
}

// distances returns the distance between each two stops: each stop in turn is let into the ways between the others.
func (m Map) distances() table {
	far := m.steps()
	for through := range m.N {
		for a := range m.N {
			for b := range m.N {
				far[a][b] = min(far[a][b], far[a][through]+far[through][b])
			}
		}
	}
	return far
}

// wayCost returns what a way costs, and whether it is one.
func (m Map) wayCost(way []int) (int, bool) {
	steps := m.steps()
	cost := 0
	for at, stop := range way {
		if !m.isStop(stop) || slices.Contains(way[:at], stop) {
			return 0, false
		}
		if at > 0 {
			cost += steps[way[at-1]][stop]
		}
	}
	// A step without a road alone costs more than any way.
	return cost, len(way) > 0 && cost < beyond
}

// areBounds reports whether there is a potential for each stop, and no road's ends differ in them by more than its cost.
func (m Map) areBounds(potentials []int) bool {
	if len(potentials) != m.N || slices.Min(potentials) < -maxPotential || slices.Max(potentials) > maxPotential {
		return false
	}
	for _, road := range m.Roads {
		rise := potentials[road.B] - potentials[road.A]
		if max(rise, -rise) > road.Cost {
			return false
		}
	}
	return true
}
