package swap

import (
	"slices"

	"corrody/api"
)

// Trade returns the outcome of trading.
func Trade(w [][]int) ([]int, api.Errno) {
	wish, ok := read(w)
	if !ok {
		return nil, api.ErrArg
	}
	o, _ := wish.owning(upTo(wish.people)).trade()
	return o, api.OK
}

// Rounds returns in which round people leave.
func Rounds(w [][]int) ([]int, api.Errno) {
	wish, ok := read(w)
	if !ok {
		return nil, api.ErrArg
	}
	_, rounds := wish.owning(upTo(wish.people)).trade()
	return rounds, api.OK
}

// Given returns with how many outcomes to begin with people get things.
func Given(w [][]int) ([][]int, api.Errno) {
	wish, ok := read(w)
	if !ok {
		return nil, api.ErrArg
	}
	return wish.tally(func(given []int) []int {
		o, _ := wish.owning(given).trade()
		return o
	}), api.OK
}

// owning returns who has what, before the first round, if an outcome is first given to all.
func (w wishes) owning(given []int) holding {
	return holding{wishes: w, things: given, left: w.everyone()}
}

// trade follows the trading rule, and returns the outcome, and in which round each person leaves.
func (h holding) trade() ([]int, []int) {
	o, rounds := make([]int, h.people), make([]int, h.people)
	for round := 0; h.left != 0; round++ {
		taken := 0
		for person, thing := range h.things {
			if has(h.left, thing) && h.onCycle(person) {
				o[person] = h.best(person, h.left)
				rounds[person] = round
				taken |= 1 << o[person]
			}
		}
		// Nobody leaves before all have been looked at, as everyone points at the same time.
		h.left &^= taken
	}
	return o, rounds
}

// onCycle reports whether a person who is left is on a cycle of pointing.
func (h holding) onCycle(person int) bool {
	next := person
	// No cycle is longer than there are people.
	for range h.people {
		next = slices.Index(h.things, h.best(next, h.left))
		if next == person {
			return true
		}
	}
	return false
}
