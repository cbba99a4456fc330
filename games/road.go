package games

import (
	"slices"

	"corrody/api"
)

// twelfths is how a payment of 1 is counted: 1/2 to 1/4 are whole numbers then.
const twelfths = 12

// Road returns the costs of a road.
func Road(l []int) ([]int, api.Errno) {
	if !areLengths(l) {
		return nil, api.ErrArg
	}
	c := make([]int, 1<<len(l))
	for set := range c {
		for player, length := range l {
			if has(set, player) {
				c[set] = max(c[set], length)
			}
		}
	}
	return c, api.OK
}

// Serial returns the payments for a road.
func Serial(l []int) ([]api.Frac, api.Errno) {
	if !areLengths(l) {
		return nil, api.ErrArg
	}
	stops := slices.Clone(l)
	slices.Sort(stops)
	paid := make([]int, len(l))
	from := 0
	for at, to := range stops {
		// Where lengths are equal, all but the first of them end a stretch of no length.
		part := (to - from) * (twelfths / (len(l) - at))
		for player, length := range l {
			if length >= to {
				paid[player] += part
			}
		}
		from = to
	}
	x := make([]api.Frac, len(l))
	for player, sum := range paid {
		x[player] = reduced(sum, twelfths)
	}
	return x, api.OK
}

// areLengths reports whether l is lengths.
func areLengths(l []int) bool {
	return within(len(l), 1, api.MaxGroup) && areCosts(l)
}
