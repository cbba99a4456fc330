package vote

import (
	"iter"
	"slices"

	"corrody/api"
)

// Disagreement returns how often ballots have two candidates the other way round than an order.
func Disagreement(l [][]int, order []int) (int, api.Errno) {
	p, ok := count(l)
	if !ok || !isOrder(order, p.names) {
		return 0, api.ErrArg
	}
	return p.disagreement(order), api.OK
}

// Kemeny returns the first order with the least disagreement, and that.
func Kemeny(l [][]int) ([]int, int, api.Errno) {
	p, ok := count(l)
	if !ok {
		return nil, 0, api.ErrArg
	}
	order := p.kemeny()
	return order, p.disagreement(order), api.OK
}

// disagreement returns how often ballots have two candidates the other way round than an order.
func (p poll) disagreement(order []int) int {
	sum := 0
	for at, a := range order {
		for _, b := range order[at+1:] {
			// What the ballots for a over b and those against are together, less what they are apart, is twice those against.
			sum += (len(p.ballots) - p.margins[a][b]) / 2
		}
	}
	return sum
}

// kemeny returns the first order with the least disagreement.
func (p poll) kemeny() []int {
	best := upTo(p.names)
	least := p.disagreement(best)
	for order := range orders(best, p.names) {
		if d := p.disagreement(order); d < least {
			best, least = slices.Clone(order), d
		}
	}
	return best
}

// orders gives all slices of size different ones of rising things, the first one first. The next one is written over the last.
func orders(things []int, size int) iter.Seq[[]int] {
	return func(yield func([]int) bool) {
		order := make([]int, size)
		var fill func(at int) bool
		fill = func(at int) bool {
			if at == size {
				return yield(order)
			}
			for _, x := range things {
				if slices.Contains(order[:at], x) {
					continue
				}
				order[at] = x
				if !fill(at + 1) {
					return false
				}
			}
			return true
		}
		fill(0)
	}
}

// parts gives all rising slices of size numbers below n, the first one first. The next one is written over the last.
func parts(n, size int) iter.Seq[[]int] {
	return func(yield func([]int) bool) {
		part := make([]int, size)
		var fill func(at, from int) bool
		fill = func(at, from int) bool {
			if at == size {
				return yield(part)
			}
			for x := from; x < n; x++ {
				part[at] = x
				if !fill(at+1, x+1) {
					return false
				}
			}
			return true
		}
		fill(0, 0)
	}
}

// upTo returns the numbers from 0 to n - 1.
func upTo(n int) []int {
	l := make([]int, n)
	for x := range n {
		l[x] = x
	}
	return l
}
