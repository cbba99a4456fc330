package vote

import (
	"slices"

	"corrody/api"
)

// Axis returns the first axis.
func Axis(l [][]int) ([]int, api.Errno) {
	if !valid(l) {
		return nil, api.ErrArg
	}
	axis, ok := axisOf(l, upTo(len(l[0])))
	if !ok {
		return nil, api.ErrNone
	}
	return axis, api.OK
}

// Bend returns the smallest part of the ballots and of the candidates without an axis.
func Bend(l [][]int) ([]int, []int, api.Errno) {
	if !valid(l) {
		return nil, nil, api.ErrArg
	}
	if _, ok := axisOf(l, upTo(len(l[0]))); ok {
		return nil, nil, api.ErrNone
	}
	for names := range len(l[0]) + 1 {
		for voters := range len(l) + 1 {
			if who, candidates, ok := bendOf(l, voters, names); ok {
				return who, candidates, api.OK
			}
		}
	}
	// Not reached: the whole is a part without an axis.
	return nil, nil, api.ErrNone
}

// bendOf returns the first part without an axis that has so many ballots and candidates, the candidates compared first, and whether there is one.
func bendOf(l [][]int, voters, names int) ([]int, []int, bool) {
	for candidates := range parts(len(l[0]), names) {
		for who := range parts(len(l), voters) {
			var ballots [][]int
			for _, voter := range who {
				ballots = append(ballots, l[voter])
			}
			if _, ok := axisOf(ballots, candidates); !ok {
				return who, candidates, true
			}
		}
	}
	return nil, nil, false
}

// axisOf returns the first order of some candidates that is an axis for ballots, and whether there is one. The ballots may have more candidates: which of two comes before the other one is the same without them.
func axisOf(ballots [][]int, candidates []int) ([]int, bool) {
	for order := range orders(candidates, len(candidates)) {
		if onePeak(ballots, order) {
			return order, true
		}
	}
	return nil, false
}

// onePeak reports whether no ballot has a candidate behind two others between which it stands in an order.
func onePeak(ballots [][]int, order []int) bool {
	for at, y := range order {
		for _, x := range order[:at] {
			for _, z := range order[at+1:] {
				for _, ballot := range ballots {
					if before(ballot, x, y) && before(ballot, z, y) {
						return false
					}
				}
			}
		}
	}
	return true
}

// before reports whether a ballot has a before b.
func before(ballot []int, a, b int) bool {
	return slices.Index(ballot, a) < slices.Index(ballot, b)
}
