package swap

import (
	"math/bits"
	"slices"

	"corrody/api"
)

// Objects returns a group that objects to an outcome.
func Objects(w [][]int, o []int) (int, api.Errno) {
	wish, ok := read(w)
	if !ok || !isOrder(o, wish.people) {
		return 0, api.ErrArg
	}
	first, fewest := 0, wish.people+1
	for group := range wish.everyone() + 1 {
		if people := bits.OnesCount(uint(group)); people < fewest && wish.objects(group, o) {
			first, fewest = group, people
		}
	}
	if first == 0 {
		return 0, api.ErrNone
	}
	return first, api.OK
}

// Better returns a better outcome.
func Better(w [][]int, o []int) ([]int, api.Errno) {
	wish, ok := read(w)
	if !ok || !isOrder(o, wish.people) {
		return nil, api.ErrArg
	}
	for other := range orders(wish.people) {
		if wish.gains(wish.everyone(), other, o) {
			return slices.Clone(other), api.OK
		}
	}
	return nil, api.ErrNone
}

// objects reports whether a group objects to an outcome. The empty one, of which nobody gains, does not.
func (w wishes) objects(group int, o []int) bool {
	// What the others get does not matter: each exchange of a group is part of an outcome.
	for other := range orders(w.people) {
		if isExchange(group, other) && w.gains(group, other, o) {
			return true
		}
	}
	return false
}

// isExchange reports whether a group gets just the things in an outcome that it has itself.
func isExchange(group int, o []int) bool {
	for person, thing := range o {
		if has(group, person) && !has(group, thing) {
			return false
		}
	}
	return true
}

// gains reports whether nobody of a group likes what they get in an outcome less than what they get in another one, and somebody more.
func (w wishes) gains(group int, o, other []int) bool {
	somebody := false
	for person := range w.people {
		if !has(group, person) {
			continue
		}
		if w.likes(person, other[person], o[person]) {
			return false
		}
		somebody = somebody || w.likes(person, o[person], other[person])
	}
	return somebody
}
