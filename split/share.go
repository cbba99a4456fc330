package split

import (
	"slices"

	"corrody/api"
)

// Share returns the greatest worth that each of n parts of one person's goods can have.
func Share(l []int, n int) (int, api.Errno) {
	if !validParts(l, n) {
		return 0, api.ErrArg
	}
	share, _ := divide(l, n)
	return share, api.OK
}

// Split returns a division of one person's goods to n parts each of which is worth at least the share.
func Split(l []int, n int) ([]int, api.Errno) {
	if !validParts(l, n) {
		return nil, api.ErrArg
	}
	_, d := divide(l, n)
	return d, api.OK
}

// validParts reports whether l is one person's values and n a number of parts.
func validParts(l []int, n int) bool {
	return validRow(l) && n >= 1 && n <= maxParts
}

// divide returns the share and the first division that reaches it.
func divide(l []int, n int) (int, []int) {
	share, best := -1, []int(nil)
	d, sums := make([]int, len(l)), make([]int, n)
	var place func(g, used int)
	place = func(g, used int) {
		if g == len(l) {
			if least := slices.Min(sums); least > share {
				share, best = least, slices.Clone(d)
			}
			return
		}
		// Empty parts are alike, so that a good opens at most one of them: 877 divisions instead of 7 to the power of 7.
		for part := range min(used+1, n) {
			d[g] = part
			sums[part] += l[g]
			place(g+1, max(used, part+1))
			sums[part] -= l[g]
		}
	}
	place(0, 0)
	return share, best
}
