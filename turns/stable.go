package turns

import (
	"slices"

	"corrody/api"
)

// Blocks returns all pairs [h, s] that block m, rising.
func Blocks(p Plan, m []int) ([][2]int, api.Errno) {
	if !p.matches(m) {
		return nil, api.ErrArg
	}
	var pairs [][2]int
	for h := range len(p.Hands) {
		for s := range len(p.Shifts) {
			if p.blocks(m, h, s) {
				pairs = append(pairs, [2]int{h, s})
			}
		}
	}
	return pairs, api.OK
}

// Stable returns all stable matchings, rising.
func Stable(p Plan) ([][]int, api.Errno) {
	if !p.valid() {
		return nil, api.ErrArg
	}
	return p.allStable(), api.OK
}

// blocks reports whether hand h and shift s would rather have each other than what they have in m.
func (p Plan) blocks(m []int, h, s int) bool {
	if !p.possible(h, s) || rank(p.Hands[h], s) >= rank(p.Hands[h], m[h]) {
		return false
	}
	held := handsOf(m, s)
	if len(held) < p.Places[s] {
		return true
	}
	return rank(p.Shifts[s], h) < rank(p.Shifts[s], choice(p.Shifts[s], len(held), held...))
}

// stable reports whether no pair blocks m.
func (p Plan) stable(m []int) bool {
	for h := range len(p.Hands) {
		for s := range len(p.Shifts) {
			if p.blocks(m, h, s) {
				return false
			}
		}
	}
	return true
}

// allStable returns all stable matchings, rising.
func (p Plan) allStable() [][]int {
	var found [][]int
	m := unmatched(len(p.Hands))
	var give func(h int)
	give = func(h int) {
		if h == len(m) {
			if p.stable(m) {
				found = append(found, slices.Clone(m))
			}
			return
		}
		give(h + 1)
		for s := range len(p.Shifts) {
			// The hands from h on have nothing yet, so that they take no place.
			if p.possible(h, s) && len(handsOf(m, s)) < p.Places[s] {
				m[h] = s
				give(h + 1)
				m[h] = none
			}
		}
	}
	give(0)
	return found
}
