package market

import (
	"slices"

	"corrody/api"
)

// maxTerm is the greatest numerator and denominator of a price and of a spending.
const maxTerm = 1 << 20

// Check reports whether prices and spendings are in balance.
func Check(m Market, prices []api.Frac, spend [][]api.Frac) (bool, api.Errno) {
	if !m.valid() {
		return false, api.ErrArg
	}
	return m.arePrices(prices) && m.areSpendings(spend) && m.balanced(prices, spend), api.OK
}

// Want returns which goods buyers want at prices.
func Want(m Market, prices []api.Frac) ([]int, api.Errno) {
	if !m.valid() || !m.arePrices(prices) {
		return nil, api.ErrArg
	}
	wants := make([]int, len(m.Budgets))
	for buyer := range wants {
		wants[buyer] = m.wants(buyer, prices)
	}
	return wants, api.OK
}

// arePrices reports whether prices has a price for each good.
func (m Market) arePrices(prices []api.Frac) bool {
	return len(prices) == m.goods() && !slices.ContainsFunc(prices, func(price api.Frac) bool { return !isFrac(price, 1) })
}

// areSpendings reports whether spend has a spending of each buyer on each good.
func (m Market) areSpendings(spend [][]api.Frac) bool {
	if len(spend) != len(m.Budgets) {
		return false
	}
	for _, row := range spend {
		if len(row) != m.goods() || slices.ContainsFunc(row, func(spent api.Frac) bool { return !isFrac(spent, 0) }) {
			return false
		}
	}
	return true
}

// isFrac reports whether f is a fraction in lowest terms whose numerator is at least least, and whose terms are not too great.
func isFrac(f api.Frac, least int) bool {
	return f.Num >= least && f.Num <= maxTerm && f.Den >= 1 && f.Den <= maxTerm && f == reduced(f.Num, f.Den)
}

// balanced reports whether buyers spend their whole budgets, on goods that they want only, and all goods are paid.
func (m Market) balanced(prices []api.Frac, spend [][]api.Frac) bool {
	paid := slices.Repeat([]api.Frac{whole(0)}, len(prices))
	for buyer, row := range spend {
		wants := m.wants(buyer, prices)
		spent := whole(0)
		for good, part := range row {
			if part != whole(0) && wants>>good&1 == 0 {
				return false
			}
			spent = plus(spent, part)
			paid[good] = plus(paid[good], part)
		}
		if spent != whole(m.Budgets[buyer]) {
			return false
		}
	}
	return slices.Equal(paid, prices)
}

// wants returns the set of goods whose use for a point is the greatest to a buyer.
func (m Market) wants(buyer int, prices []api.Frac) int {
	gains := m.gains(buyer, prices)
	most := slices.MaxFunc(gains, compare)
	set := 0
	for good, gain := range gains {
		if gain == most {
			set |= 1 << good
		}
	}
	return set
}

// gains returns the use for a point of each good to a buyer.
func (m Market) gains(buyer int, prices []api.Frac) []api.Frac {
	gains := make([]api.Frac, len(prices))
	for good, price := range prices {
		gains[good] = over(whole(m.Uses[buyer][good]), price)
	}
	return gains
}
