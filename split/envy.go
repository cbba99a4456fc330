package split

import "corrody/api"

// The kinds of fairness.
const (
	freeOfEnvy = iota
	upToOne
	upToAny
	proportional
	proportionalUpToOne
	kinds // how many there are
)

// Envy returns all pairs of which the first envies the second, rising.
func Envy(v [][]int, d []int) ([][2]int, api.Errno) {
	if !validDivision(v, d) {
		return nil, api.ErrArg
	}
	var pairs [][2]int
	for i := range len(v) {
		for j := range len(v) {
			if envies(v, d, i, j) {
				pairs = append(pairs, [2]int{i, j})
			}
		}
	}
	return pairs, api.OK
}

// Fair reports whether a division is fair in the sense of the kind: free of envy (0), up to one (1), up to any (2), proportional (3), proportional up to one (4).
func Fair(v [][]int, d []int, kind int) (bool, api.Errno) {
	if !validDivision(v, d) || kind < 0 || kind >= kinds {
		return false, api.ErrArg
	}
	for i := range len(v) {
		if !fairTo(v, d, i, kind) {
			return false, api.OK
		}
	}
	return true, api.OK
}

// envies reports whether i envies j. Goods that d gives to nobody (see deal.go) count for none.
func envies(v [][]int, d []int, i, j int) bool {
	return worthOf(v[i], d, j) > worthOf(v[i], d, i)
}

// fairTo reports whether person i finds nothing in d that the kind of fairness rules out.
func fairTo(v [][]int, d []int, i, kind int) bool {
	switch kind {
	case proportional:
		return enough(v[i], d, i, len(v))
	case proportionalUpToOne:
		return enough(v[i], d, i, len(v)) || oneIsEnough(v[i], d, i, len(v))
	}
	for j := range len(v) {
		if envies(v, d, i, j) && !excused(v[i], d, i, j, kind) {
			return false
		}
	}
	return true
}

// excused reports whether the kind of fairness allows that i envies j.
func excused(row, d []int, i, j, kind int) bool {
	own, other := worthOf(row, d, i), worthOf(row, d, j)
	some, each := false, true
	for g, owner := range d {
		if owner != j {
			continue
		}
		if other-row[g] <= own {
			some = true
		} else {
			each = false
		}
	}
	switch kind {
	case upToOne:
		return some
	case upToAny:
		return each
	}
	return false
}

// enough reports whether i has at least the n-th part of the worth of all goods.
func enough(row, d []int, i, n int) bool {
	return n*worthOf(row, d, i) >= sumOf(row)
}

// oneIsEnough reports whether i would have enough with one good of another person.
func oneIsEnough(row, d []int, i, n int) bool {
	own, all := worthOf(row, d, i), sumOf(row)
	for g, owner := range d {
		if owner != i && n*(own+row[g]) >= all {
			return true
		}
	}
	return false
}
