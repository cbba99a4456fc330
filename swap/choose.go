package swap

import (
	"slices"

	"corrody/api"
)

// Order returns an order in which choosing gives an outcome.
func Order(w [][]int, o []int) ([]int, api.Errno) {
	wish, ok := read(w)
	if !ok || !isOrder(o, wish.people) {
		return nil, api.ErrArg
	}
	for order := range orders(wish.people) {
		if slices.Equal(wish.choose(order), o) {
			return slices.Clone(order), api.OK
		}
	}
	return nil, api.ErrNone
}

// Choose returns the outcome of choosing in an order.
func Choose(w [][]int, order []int) ([]int, api.Errno) {
	wish, ok := read(w)
	if !ok || !isOrder(order, wish.people) {
		return nil, api.ErrArg
	}
	return wish.choose(order), api.OK
}

// Chances returns in how many orders people get things.
func Chances(w [][]int) ([][]int, api.Errno) {
	wish, ok := read(w)
	if !ok {
		return nil, api.ErrArg
	}
	return wish.tally(wish.choose), api.OK
}

// choose returns the outcome of choosing in an order of all people.
func (w wishes) choose(order []int) []int {
	o := make([]int, w.people)
	left := w.everyone()
	for _, person := range order {
		o[person] = w.best(person, left)
		left &^= 1 << o[person]
	}
	return o
}
