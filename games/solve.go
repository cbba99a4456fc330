package games

import (
	"slices"

	"corrody/api"
)

// whole is what 1 is counted as where fractions are summed. All Dens up to 24 divide it, and no sum here passes an int's 63 bits.
const whole = 5354228880

// column is a number for each of some sets or players.
type column [api.MaxGroup]int

// counted returns f times whole.
func counted(f api.Frac) int {
	return f.Num * (whole / f.Den)
}

// reduced returns num / den in lowest terms. The denominator is not 0.
func reduced(num, den int) api.Frac {
	divisor, rest := den, num
	for rest != 0 {
		divisor, rest = rest, divisor%rest
	}
	if (divisor < 0) != (den < 0) {
		divisor = -divisor
	}
	return api.Frac{Num: num / divisor, Den: den / divisor}
}

// choices returns all choices of so many different sets of n players, rising. No set is empty or has all players.
func choices(n, sets int) [][]int {
	all := [][]int{nil}
	for range sets {
		var longer [][]int
		for _, l := range all {
			for set := range 1<<n - 1 {
				if set > 0 && (len(l) == 0 || set > l[len(l)-1]) {
					longer = append(longer, append(slices.Clone(l), set))
				}
			}
		}
		all = longer
	}
	return all
}

// solve returns what n columns are multiplied by if they sum to right, or nil if there is no or more than one answer.
func solve(n int, columns [api.MaxGroup]column, right column) []api.Frac {
	all := determinant(n, columns, 0, 0)
	if all == 0 {
		return nil
	}
	// By Cramer's rule. Here the determinants of zeros and ones are at most 3, so that these are the greatest Dens.
	factors := make([]api.Frac, n)
	for k := range n {
		replaced := columns
		replaced[k] = right
		factors[k] = reduced(determinant(n, replaced, 0, 0), all)
	}
	return factors
}

// determinant returns the determinant of n columns, without the rows before row and the columns that are used.
func determinant(n int, columns [api.MaxGroup]column, row, used int) int {
	if row == n {
		return 1
	}
	sum, sign := 0, 1
	for k := range n {
		if has(used, k) {
			continue
		}
		if columns[k][row] != 0 {
			sum += sign * columns[k][row] * determinant(n, columns, row+1, used|1<<k)
		}
		sign = -sign
	}
	return sum
}
