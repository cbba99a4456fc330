package vote

import (
	"slices"

	"corrody/api"
)

// Widths returns the width from each candidate to each other one.
func Widths(l [][]int) ([][]int, api.Errno) {
	p, ok := count(l)
	if !ok {
		return nil, api.ErrArg
	}
	return p.widths().rows(p.names), api.OK
}

// Path returns the first of the shortest widest paths from a to b.
func Path(l [][]int, a, b int) ([]int, api.Errno) {
	p, ok := count(l)
	if !ok || a < 0 || a >= p.names || b < 0 || b >= p.names || a == b {
		return nil, api.ErrArg
	}
	width := p.widths()[a][b]
	others := upTo(p.names)
	others = slices.DeleteFunc(others, func(x int) bool { return x == a || x == b })
	for size := range len(others) + 1 {
		for between := range orders(others, size) {
			path := slices.Concat([]int{a}, between, []int{b})
			if p.strength(path) == width {
				return path, api.OK
			}
		}
	}
	// Not reached: some path is as strong as the widest one.
	return nil, api.ErrNone
}

// widths returns all widths: each candidate in turn is let into the paths between the others.
func (p poll) widths() table {
	wide := p.margins
	for through := range p.names {
		for a := range p.names {
			for b := range p.names {
				// A way back to a is no path.
				if a != b {
					wide[a][b] = max(wide[a][b], min(wide[a][through], wide[through][b]))
				}
			}
		}
	}
	return wide
}

// strength returns the least margin of one of a path over the next one.
func (p poll) strength(path []int) int {
	least := p.margins[path[0]][path[1]]
	for at := range len(path) - 1 {
		least = min(least, p.margins[path[at]][path[at+1]])
	}
	return least
}
