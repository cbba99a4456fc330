package games

import (
	"math/bits"
	"slices"

	"corrody/api"
)

// Join returns what players pay in an order.
func Join(c []int, order []int) ([]int, api.Errno) {
	if !valid(c) || !isOrder(order, players(c)) {
		return nil, api.ErrArg
	}
	x := make([]int, len(order))
	before := 0
	for _, player := range order {
		x[player] = rise(c, before, player)
		before |= 1 << player
	}
	return x, api.OK
}

// Shapley returns the Shapley payments.
func Shapley(c []int) ([]api.Frac, api.Errno) {
	if !valid(c) {
		return nil, api.ErrArg
	}
	n := players(c)
	x := make([]api.Frac, n)
	for player := range n {
		sum := 0
		for set := range c {
			if !has(set, player) {
				before := bits.OnesCount(uint(set))
				// In so many orders just this set is before the player.
				orders := factorial(before) * factorial(n-1-before)
				sum += orders * rise(c, set, player)
			}
		}
		x[player] = reduced(sum, factorial(n))
	}
	return x, api.OK
}

// Concave returns two sets that show that costs are not concave.
func Concave(c []int) (int, int, api.Errno) {
	if !valid(c) {
		return 0, 0, api.ErrArg
	}
	for a := range c {
		for b := range c {
			if c[a|b]+c[a&b] > c[a]+c[b] {
				return a, b, api.OK
			}
		}
	}
	return 0, 0, api.ErrNone
}

// isOrder reports whether an order has all of n players, each once.
func isOrder(order []int, n int) bool {
	if len(order) != n {
		return false
	}
	for at, player := range order {
		if !within(player, 0, n-1) || slices.Contains(order[:at], player) {
			return false
		}
	}
	return true
}

// rise returns what the cost of a set rises by when a player joins it.
func rise(c []int, set, player int) int {
	return c[set|1<<player] - c[set]
}

// factorial returns in how many orders n players can be.
func factorial(n int) int {
	orders := 1
	for k := range n {
		orders *= k + 1
	}
	return orders
}
