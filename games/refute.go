package games

import (
	"slices"

	"corrody/api"
)

// Refute returns a collection that refutes costs.
func Refute(c []int) ([]Part, api.Errno) {
	if !valid(c) {
		return nil, api.ErrArg
	}
	// The least sum of Share times cost is reached by independent sets, of which there are at most n, and it is less than the cost of all if the core is empty (by duality). A Share of everyone would only bring the sum nearer to that cost.
	n := players(c)
	for _, sets := range choices(n, n) {
		l := balanced(sets)
		if refutes(c, l) {
			return l, api.OK
		}
	}
	return nil, api.ErrNone
}

// CheckRefute reports whether a collection refutes costs.
func CheckRefute(c []int, l []Part) (bool, api.Errno) {
	if !valid(c) {
		return false, api.ErrArg
	}
	return refutes(c, l), api.OK
}

// balanced returns some sets, as many as there are players, with the Shares that sum to 1 for every player, and without the sets whose Share is 0. The Shares may be below 0. It returns nil if these are not the only ones, or there are none.
func balanced(sets []int) []Part {
	var columns [api.MaxGroup]column
	var ones column
	for k, set := range sets {
		ones[k] = 1
		for player := range sets {
			columns[k][player] = set >> player & 1
		}
	}
	var l []Part
	for k, share := range solve(len(sets), columns, ones) {
		if share.Num != 0 {
			l = append(l, Part{Set: sets[k], Share: share})
		}
	}
	return l
}

// refutes reports whether l is a collection that refutes costs.
func refutes(c []int, l []Part) bool {
	if !isCollection(l, players(c)) {
		return false
	}
	cost := 0
	for _, part := range l {
		cost += counted(part.Share) * c[part.Set]
	}
	return cost < c[everyone(c)]*whole
}

// isCollection reports whether l is a collection for n players.
func isCollection(l []Part, n int) bool {
	seen := map[int]bool{}
	shares := make([]int, n)
	for _, part := range l {
		if !isPart(part, n) || seen[part.Set] {
			return false
		}
		seen[part.Set] = true
		for player := range n {
			if has(part.Set, player) {
				shares[player] += counted(part.Share)
			}
		}
	}
	return !slices.ContainsFunc(shares, func(sum int) bool { return sum != whole })
}

// isPart reports whether a part may be in a collection for n players.
func isPart(part Part, n int) bool {
	share := part.Share
	// Above 1 a share alone is more than the sum for its players. Sums of such shares might pass an int.
	return within(part.Set, 1, 1<<n-1) && within(share.Num, 1, share.Den) && share.Den <= maxShareDen && share == reduced(share.Num, share.Den)
}
