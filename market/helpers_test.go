package market_test

import (
	"math/big"
	"math/rand"
	"slices"
	"testing"

	"corrody/api"
	"corrody/market"
)

// apart is the chapter's first example.
func apart() market.Market {
	return market.Market{Budgets: []int{1, 1}, Uses: [][]int{{1, 0}, {0, 1}}}
}

// alike is the chapter's second example.
func alike() market.Market {
	return market.Market{Budgets: []int{3, 1}, Uses: [][]int{{1, 1}, {1, 1}}}
}

// even is the chapter's third example.
func even() market.Market {
	return market.Market{Budgets: []int{1, 1}, Uses: [][]int{{2, 1}, {1, 1}}}
}

// richer is the chapter's fourth example.
func richer() market.Market {
	return market.Market{Budgets: []int{4, 1}, Uses: [][]int{{2, 1}, {1, 1}}}
}

// full is a market whose three buyers want all three goods.
func full() market.Market {
	return market.Market{Budgets: []int{1, 2, 3}, Uses: [][]int{{1, 2, 3}, {2, 4, 6}, {5, 10, 15}}}
}

// wide is a market of one buyer and all goods.
func wide() market.Market {
	return market.Market{Budgets: []int{6}, Uses: [][]int{{3, 2, 4}}}
}

// scarce is a market of all buyers and one good.
func scarce() market.Market {
	return market.Market{Budgets: []int{6, 2, 1}, Uses: [][]int{{3}, {20}, {1}}}
}

// long is a market with a single way from each node to each other one.
func long() market.Market {
	return market.Market{Budgets: []int{20, 20, 20}, Uses: [][]int{{19, 0, 0}, {20, 19, 0}, {0, 20, 19}}}
}

// most is a market with the greatest numbers.
func most() market.Market {
	return market.Market{Budgets: []int{20, 20, 20}, Uses: [][]int{{20, 20, 20}, {20, 20, 20}, {20, 20, 20}}}
}

func examples() []market.Market {
	return []market.Market{apart(), alike(), even(), richer(), full(), wide(), scarce(), long(), most()}
}

// f is a fraction as it is written.
func f(num, den int) api.Frac { return api.Frac{Num: num, Den: den} }

// whole is numbers as fractions.
func whole(l ...int) []api.Frac {
	var fracs []api.Frac
	for _, n := range l {
		fracs = append(fracs, f(n, 1))
	}
	return fracs
}

// clone is a market that shares nothing with m.
func clone(m market.Market) market.Market {
	return market.Market{Budgets: slices.Clone(m.Budgets), Uses: cloneRows(m.Uses)}
}

func cloneRows[T any](rows [][]T) [][]T {
	var l [][]T
	for _, row := range rows {
		l = append(l, slices.Clone(row))
	}
	return l
}

// isMarket reports whether everybody has a use for something, and everything is of use to somebody.
func isMarket(m market.Market) bool {
	for _, row := range m.Uses {
		if slices.Max(row) == 0 {
			return false
		}
	}
	for good := range m.Uses[0] {
		if !slices.ContainsFunc(m.Uses, func(row []int) bool { return row[good] > 0 }) {
			return false
		}
	}
	return true
}

// randomMarket returns a market of any shape. Small numbers are frequent, as they make buyers want several goods.
func randomMarket(r *rand.Rand) market.Market {
	for {
		buyers, goods := 1+r.Intn(api.MaxSide), 1+r.Intn(api.MaxSide)
		budget, use := []int{2, 5, 20}[r.Intn(3)], []int{1, 2, 4, 20}[r.Intn(4)]
		m := market.Market{}
		for range buyers {
			m.Budgets = append(m.Budgets, 1+r.Intn(budget))
			var row []int
			for range goods {
				row = append(row, r.Intn(use+1))
			}
			m.Uses = append(m.Uses, row)
		}
		if isMarket(m) {
			return m
		}
	}
}

// cases calls f with the examples and with count markets from a fixed sequence.
func cases(count int, f func(m market.Market, r *rand.Rand)) {
	r := rand.New(rand.NewSource(1))
	for _, m := range examples() {
		f(m, r)
	}
	for range count {
		f(randomMarket(r), r)
	}
}

// ok fails if there is an error, and else returns what a function returned before it.
func ok[T any](t *testing.T) func(x T, e api.Errno) T {
	t.Helper()
	return func(x T, e api.Errno) T {
		t.Helper()
		if e != api.OK {
			t.Fatal(x, e)
		}
		return x
	}
}

func prices(t *testing.T, m market.Market) []api.Frac {
	t.Helper()
	return ok[[]api.Frac](t)(market.Prices(m))
}

func spend(t *testing.T, m market.Market) [][]api.Frac {
	t.Helper()
	return ok[[][]api.Frac](t)(market.Spend(m))
}

func worth(t *testing.T, m market.Market) []api.Frac {
	t.Helper()
	return ok[[]api.Frac](t)(market.Worth(m))
}

func check(t *testing.T, m market.Market, p []api.Frac, s [][]api.Frac) bool {
	t.Helper()
	return ok[bool](t)(market.Check(m, p, s))
}

// rat is a fraction as a number of the library.
func rat(a api.Frac) *big.Rat { return big.NewRat(int64(a.Num), int64(a.Den)) }

func ratOf(n int) *big.Rat { return rat(f(n, 1)) }

// frac is a number of the library as a fraction.
func frac(a *big.Rat) api.Frac { return f(int(a.Num().Int64()), int(a.Denom().Int64())) }

func sum(l []api.Frac) *big.Rat {
	total := new(big.Rat)
	for _, a := range l {
		total.Add(total, rat(a))
	}
	return total
}

func sumOf(l []int) *big.Rat { return sum(whole(l...)) }

func product(a, b *big.Rat) *big.Rat { return new(big.Rat).Mul(a, b) }

func quotient(a, b *big.Rat) *big.Rat { return new(big.Rat).Quo(a, b) }

// gainOf is a buyer's use of a good divided by its price.
func gainOf(m market.Market, p []api.Frac, buyer, good int) *big.Rat {
	return quotient(ratOf(m.Uses[buyer][good]), rat(p[good]))
}

// wantsOf is the set of goods that a buyer wants, by the definition.
func wantsOf(m market.Market, p []api.Frac, buyer int) int {
	set := 0
	for good := range p {
		best := true
		for other := range p {
			best = best && gainOf(m, p, buyer, good).Cmp(gainOf(m, p, buyer, other)) >= 0
		}
		if best {
			set |= 1 << good
		}
	}
	return set
}

// isFrac reports whether a is in lowest terms from least / 1 on, by trying all common divisors that matter.
func isFrac(a api.Frac, least int) bool {
	if a.Num < least || a.Den < 1 || a.Num > 1<<20 || a.Den > 1<<20 {
		return false
	}
	return frac(rat(a)) == a
}

// inBalance reports whether p and s are prices and spendings in balance, by the definition.
func inBalance(m market.Market, p []api.Frac, s [][]api.Frac) bool {
	if len(p) != len(m.Uses[0]) || len(s) != len(m.Budgets) {
		return false
	}
	for good := range p {
		if !isFrac(p[good], 1) {
			return false
		}
	}
	for buyer := range s {
		if len(s[buyer]) != len(p) {
			return false
		}
		for good := range p {
			if !isFrac(s[buyer][good], 0) || s[buyer][good].Num > 0 && wantsOf(m, p, buyer)&(1<<good) == 0 {
				return false
			}
		}
		if sum(s[buyer]).Cmp(ratOf(m.Budgets[buyer])) != 0 {
			return false
		}
	}
	for good := range p {
		var column []api.Frac
		for buyer := range s {
			column = append(column, s[buyer][good])
		}
		if sum(column).Cmp(rat(p[good])) != 0 {
			return false
		}
	}
	return true
}

// canBalance reports whether spendings in balance exist with prices: if no buyers have more points together than the goods cost that one of them wants.
func canBalance(m market.Market, p []api.Frac) bool {
	if sum(p).Cmp(sumOf(m.Budgets)) != 0 {
		return false
	}
	for set := range 1 << len(m.Budgets) {
		points, wanted := 0, 0
		for buyer := range m.Budgets {
			if set&(1<<buyer) != 0 {
				points += m.Budgets[buyer]
				wanted |= wantsOf(m, p, buyer)
			}
		}
		cost := new(big.Rat)
		for good := range p {
			if wanted&(1<<good) != 0 {
				cost.Add(cost, rat(p[good]))
			}
		}
		if ratOf(points).Cmp(cost) > 0 {
			return false
		}
	}
	return true
}

// worthOf is the worth for a buyer of what a row of spendings gets, by the definition.
func worthOf(m market.Market, p []api.Frac, buyer int, row []api.Frac) *big.Rat {
	total := new(big.Rat)
	for good := range p {
		total.Add(total, product(ratOf(m.Uses[buyer][good]), quotient(rat(row[good]), rat(p[good]))))
	}
	return total
}

// badMarkets are no markets.
func badMarkets() []market.Market {
	l := []market.Market{
		{},
		{Budgets: []int{}, Uses: [][]int{}},
		{Budgets: []int{1}},
		{Uses: [][]int{{1}}},
		{Budgets: []int{1}, Uses: [][]int{nil}},
		{Budgets: []int{1}, Uses: [][]int{{}}},
		{Budgets: []int{1}, Uses: [][]int{{0}}},
		{Budgets: []int{1}, Uses: [][]int{{1}, {1}}},
		{Budgets: []int{1, 1}, Uses: [][]int{{1}}},
		{Budgets: []int{1}, Uses: [][]int{{1, 1, 1, 1}}},
		{Budgets: []int{1, 1, 1, 1}, Uses: [][]int{{1}, {1}, {1}, {1}}},
		{Budgets: make([]int, 100000), Uses: make([][]int, 100000)},
		{Budgets: []int{1}, Uses: [][]int{make([]int, 100000)}},
		{Budgets: []int{1, 1}, Uses: [][]int{nil, nil}},
		{Budgets: []int{1, 1}, Uses: [][]int{{}, {1}}},
		{Budgets: []int{1, 1}, Uses: [][]int{{1}, {1, 1}}},
		{Budgets: []int{1, 1}, Uses: [][]int{{1, 1}, {1}}},
		{Budgets: []int{1, 1}, Uses: [][]int{{1, 1}, make([]int, 100000)}},
		{Budgets: []int{1, 1}, Uses: [][]int{{1, 1}, {0, 0}}},
		{Budgets: []int{1, 1}, Uses: [][]int{{0, 0}, {1, 1}}},
		{Budgets: []int{1, 1}, Uses: [][]int{{1, 0}, {1, 0}}},
		{Budgets: []int{1, 1}, Uses: [][]int{{0, 1}, {0, 1}}},
		{Budgets: []int{1, 1, 1}, Uses: [][]int{{1, 0, 1}, {1, 0, 0}, {0, 0, 1}}},
		{Budgets: []int{1, 1, 1}, Uses: [][]int{{1, 0, 1}, {0, 0, 0}, {0, 1, 1}}},
	}
	for _, n := range []int{-1, 0, 21, 1 << 40, 1<<63 - 1, -1 << 63} {
		for at := range 2 {
			m := even()
			m.Budgets[at] = n
			l = append(l, m)
			if n == 0 {
				continue
			}
			for good := range 2 {
				m := even()
				m.Uses[at][good] = n
				l = append(l, m)
			}
		}
	}
	return l
}

// badFracs are no prices. The last one is a spending, and all others are none.
func badFracs() []api.Frac {
	return []api.Frac{
		f(0, 0), f(1, 0), f(0, 2), f(2, 2), f(2, 4), f(3, 9), f(-1, 1), f(1, -1), f(-1, -1), f(-2, -1),
		f(1<<20+1, 1), f(1, 1<<20+1), f(1<<21, 1<<21), f(1<<63-1, 1), f(1, 1<<63-1), f(-1<<63, 1), f(1, -1<<63), f(-1<<63, -1<<63),
		f(0, 1),
	}
}
