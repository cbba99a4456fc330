package games

import (
	"slices"

	"corrody/api"
)

// Core returns payments in the core.
func Core(c []int) ([]api.Frac, api.Errno) {
	if !valid(c) {
		return nil, api.ErrArg
	}
	// Nobody pays more than alone, so that the core is bounded: if it is not empty, it has a corner, where n independent sets, and everyone among them, pay just their costs.
	n := players(c)
	for _, sets := range choices(n, n-1) {
		x := justPaid(c, append(sets, everyone(c)))
		if sharesAll(c, x) && objector(c, x) == 0 {
			return x, api.OK
		}
	}
	return nil, api.ErrNone
}

// CheckCore reports whether payments are in the core.
func CheckCore(c []int, x []api.Frac) (bool, api.Errno) {
	if !valid(c) {
		return false, api.ErrArg
	}
	return sharesAll(c, x) && objector(c, x) == 0, api.OK
}

// Objects returns the set that pays most too much.
func Objects(c []int, x []api.Frac) (int, api.Errno) {
	if !valid(c) || !sharesAll(c, x) {
		return 0, api.ErrArg
	}
	set := objector(c, x)
	if set == 0 {
		return 0, api.ErrNone
	}
	return set, api.OK
}

// justPaid returns the payments at which some sets, as many as there are players, pay just their costs, or nil if these are not the only ones, or there are none.
func justPaid(c []int, sets []int) []api.Frac {
	var columns [api.MaxGroup]column
	var costs column
	for k, set := range sets {
		costs[k] = c[set]
		for player := range players(c) {
			columns[player][k] = set >> player & 1
		}
	}
	return solve(players(c), columns, costs)
}

// sharesAll reports whether x is payments that sum to the cost of all.
func sharesAll(c []int, x []api.Frac) bool {
	return len(x) == players(c) && arePayments(x) && excess(c, x, everyone(c)) == 0
}

// arePayments reports whether all fractions of x are as a player's payment may be.
func arePayments(x []api.Frac) bool {
	return !slices.ContainsFunc(x, func(f api.Frac) bool {
		return !within(f.Num, -maxPaid, maxPaid) || !within(f.Den, 1, maxPaidDen) || f != reduced(f.Num, f.Den)
	})
}

// objector returns the least of the sets whose payment is most above their cost, or 0, as the empty set pays its cost, if no set pays more.
func objector(c []int, x []api.Frac) int {
	worst, most := 0, 0
	for set := range c {
		if above := excess(c, x, set); above > most {
			worst, most = set, above
		}
	}
	return worst
}

// excess returns by how much the payment of a set is above its cost, times whole.
func excess(c []int, x []api.Frac, set int) int {
	paid := 0
	for player, payment := range x {
		if has(set, player) {
			paid += counted(payment)
		}
	}
	return paid - c[set]*whole
}
