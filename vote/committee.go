package vote

import (
	"math/bits"

	"corrody/api"
)

const (
	// maxApproved is the greatest number of candidates if voters approve of sets.
	maxApproved = 8
	// whole is how the score of one candidate in common is counted: 1/2 to 1/8 are whole numbers then.
	whole = 840
)

// Committee returns the least of the committees with the greatest score.
func Committee(c, k int, l []int) (int, api.Errno) {
	if !approvals(c, k, l) {
		return 0, api.ErrArg
	}
	best, most := 0, -1
	for set := range 1 << c {
		if bits.OnesCount(uint(set)) != k {
			continue
		}
		if s := score(set, l); s > most {
			best, most = set, s
		}
	}
	return best, api.OK
}

// Group returns the least of the greatest groups that block a committee.
func Group(c, k int, l []int, committee int) (int, api.Errno) {
	if !approvals(c, k, l) || !isSet(committee, c) || bits.OnesCount(uint(committee)) != k {
		return 0, api.ErrArg
	}
	best, most := 0, 0
	for a := range c {
		// A greatest group is all who could be in it for the sake of one candidate.
		group := without(l, a, committee)
		size := bits.OnesCount(uint(group))
		if size*k >= len(l) && (size > most || size == most && group < best) {
			best, most = group, size
		}
	}
	if most == 0 {
		return 0, api.ErrNone
	}
	return best, api.OK
}

// approvals reports whether l is approvals of c candidates, and k the size of a committee.
func approvals(c, k int, l []int) bool {
	if c < 1 || c > maxApproved || k < 1 || k > c || len(l) < 1 || len(l) > api.MaxVoters {
		return false
	}
	for _, set := range l {
		if !isSet(set, c) {
			return false
		}
	}
	return true
}

// isSet reports whether a set has candidates below c only.
func isSet(set, c int) bool {
	return set >= 0 && set < 1<<c
}

// score returns the score of a committee, times whole.
func score(committee int, l []int) int {
	sum := 0
	for _, set := range l {
		for m := range bits.OnesCount(uint(set & committee)) {
			sum += whole / (m + 1)
		}
	}
	return sum
}

// without returns the approvals that have candidate a, and nobody of a committee.
func without(l []int, a, committee int) int {
	group := 0
	for voter, set := range l {
		if has(set, a) && set&committee == 0 {
			group |= 1 << voter
		}
	}
	return group
}
