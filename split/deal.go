package split

import (
	"slices"

	"corrody/api"
)

// nobody is the owner of a good that is not given yet.
const nobody = -1

// Rounds returns the division that comes if the people take, in turn, the goods that they like best.
func Rounds(v [][]int) ([]int, api.Errno) {
	if !validValues(v) {
		return nil, api.ErrArg
	}
	d := undivided(len(v[0]))
	for turn := range len(d) {
		i := turn % len(v)
		d[favourite(v[i], d)] = i
	}
	return d, api.OK
}

// Cycles returns the division that comes if each good goes to somebody whom nobody envies, cycles of envy being resolved until there is such a person.
func Cycles(v [][]int) ([]int, api.Errno) {
	if !validValues(v) {
		return nil, api.ErrArg
	}
	d := undivided(len(v[0]))
	for g := range len(d) {
		owner := nextOwner(v, d)
		d[g] = owner
	}
	return d, api.OK
}

// undivided returns the division in which nobody has anything yet.
func undivided(goods int) []int {
	d := make([]int, goods)
	for g := range goods {
		d[g] = nobody
	}
	return d
}

// favourite returns the first of the goods left that is worth most by row. There must be one left.
func favourite(row, d []int) int {
	best := nobody
	for g, owner := range d {
		if owner == nobody && (best == nobody || row[g] > row[best]) {
			best = g
		}
	}
	return best
}

// nextOwner returns who gets the next good, after it has resolved what cycles of envy stand before that.
func nextOwner(v [][]int, d []int) int {
	// Each cycle that is resolved raises what the people have in their own eyes, so this ends.
	for {
		if i := unenvied(v, d); i != nobody {
			return i
		}
		resolve(d, shortestCycle(v, d))
	}
}

// unenvied returns the first person whom nobody envies, or nobody.
func unenvied(v [][]int, d []int) int {
	for j := range len(v) {
		if !envied(v, d, j) {
			return j
		}
	}
	return nobody
}

// envied reports whether anybody envies j.
func envied(v [][]int, d []int, j int) bool {
	for i := range len(v) {
		if envies(v, d, i, j) {
			return true
		}
	}
	return false
}

// shortestCycle returns the first of the shortest cycles of envy. If everybody is envied there is one.
func shortestCycle(v [][]int, d []int) []int {
	for length := 2; length <= len(v); length++ {
		if cycle := closeCycle(v, d, nil, length); cycle != nil {
			return cycle
		}
	}
	return nil
}

// closeCycle returns the first cycle of envy of some length that begins with path, or nil.
func closeCycle(v [][]int, d, path []int, length int) []int {
	if len(path) == length {
		if envies(v, d, path[length-1], path[0]) {
			return path
		}
		return nil
	}
	for next := range len(v) {
		if slices.Contains(path, next) {
			continue
		}
		if len(path) > 0 && !envies(v, d, path[len(path)-1], next) {
			continue
		}
		longer := append(slices.Clone(path), next)
		if cycle := closeCycle(v, d, longer, length); cycle != nil {
			return cycle
		}
	}
	return nil
}

// resolve gives each one of a cycle all goods of the next one.
func resolve(d, cycle []int) {
	for g, owner := range d {
		// A good that nobody has yet is in no cycle, as nobody's index is.
		if at := slices.Index(cycle, owner); at >= 0 {
			d[g] = cycle[(at+len(cycle)-1)%len(cycle)]
		}
	}
}
