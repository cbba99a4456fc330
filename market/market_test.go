package market_test

import (
	"math/rand"
	"slices"
	"testing"

	"corrody/api"
	"corrody/market"
)

// P4.1 and P4.3: Prices and Worth.
func TestPricesExamples(t *testing.T) {
	for _, c := range []struct {
		m             market.Market
		prices, worth []api.Frac
	}{
		{apart(), whole(1, 1), whole(1, 1)},
		{alike(), whole(2, 2), []api.Frac{f(3, 2), f(1, 2)}},
		{even(), whole(1, 1), whole(2, 1)},
		{richer(), []api.Frac{f(10, 3), f(5, 3)}, []api.Frac{f(12, 5), f(3, 5)}},
		// Prices like the uses: 6 points for 6, 12 or 30.
		{full(), whole(1, 2, 3), whole(1, 4, 15)},
		{wide(), []api.Frac{f(2, 1), f(4, 3), f(8, 3)}, whole(9)},
		// Uses change no price, as there is no choice.
		{scarce(), whole(9), []api.Frac{f(2, 1), f(40, 9), f(1, 9)}},
		{most(), whole(20, 20, 20), whole(20, 20, 20)},
		// Prices at 20 to 19 twice, so that 400, 380 and 361 parts of 1141.
		{long(), []api.Frac{f(24000, 1141), f(22800, 1141), f(21660, 1141)}, []api.Frac{f(21679, 1200), f(1141, 60), f(1141, 57)}},
		{market.Market{Budgets: []int{1}, Uses: [][]int{{1}}}, whole(1), whole(1)},
		{market.Market{Budgets: []int{20}, Uses: [][]int{{20}}}, whole(20), whole(20)},
	} {
		if p := prices(t, c.m); !slices.Equal(p, c.prices) {
			t.Error(c.m, p)
		}
		if w := worth(t, c.m); !slices.Equal(w, c.worth) {
			t.Error(c.m, w)
		}
	}
}

// P4.1: Spend, where there is one right result.
func TestSpendExamples(t *testing.T) {
	for _, c := range []struct {
		m     market.Market
		spend [][]api.Frac
	}{
		{apart(), [][]api.Frac{whole(1, 0), whole(0, 1)}},
		{even(), [][]api.Frac{whole(1, 0), whole(0, 1)}},
		{richer(), [][]api.Frac{{f(10, 3), f(2, 3)}, whole(0, 1)}},
		{wide(), [][]api.Frac{{f(2, 1), f(4, 3), f(8, 3)}}},
		{scarce(), [][]api.Frac{whole(6), whole(2), whole(1)}},
		{long(), [][]api.Frac{whole(20, 0, 0), {f(1180, 1141), f(21640, 1141), f(0, 1)}, {f(0, 1), f(1160, 1141), f(21660, 1141)}}},
	} {
		if s := spend(t, c.m); !slices.EqualFunc(s, c.spend, slices.Equal) {
			t.Error(c.m, s)
		}
	}
}

// P4.1: spendings in balance exist with Prices, and Spend is such ones.
func TestPricesOfMany(t *testing.T) {
	cases(4000, func(m market.Market, r *rand.Rand) {
		p, s := prices(t, m), spend(t, m)
		if !canBalance(m, p) || !inBalance(m, p, s) {
			t.Fatal(m, p, s)
		}
	})
}

// P4.3: Worth, by the definition.
func TestWorthOfMany(t *testing.T) {
	cases(1000, func(m market.Market, r *rand.Rand) {
		p, s := prices(t, m), spend(t, m)
		w := worth(t, m)
		if len(w) != len(m.Budgets) {
			t.Fatal(m, w)
		}
		for buyer := range w {
			if w[buyer] != frac(worthOf(m, p, buyer, s[buyer])) {
				t.Fatal(m, p, s, w)
			}
		}
	})
}

// P4.3: the worth is the same for all spendings in balance.
func TestWorthOfOtherSpendings(t *testing.T) {
	m := alike()
	for _, s := range [][][]api.Frac{
		{whole(2, 1), whole(0, 1)},
		{whole(1, 2), whole(1, 0)},
		{{f(3, 2), f(3, 2)}, {f(1, 2), f(1, 2)}},
		{{f(5, 3), f(4, 3)}, {f(1, 3), f(2, 3)}},
	} {
		p := prices(t, m)
		if !check(t, m, p, s) {
			t.Error(s)
		}
		for buyer, w := range worth(t, m) {
			if frac(worthOf(m, p, buyer, s[buyer])) != w {
				t.Error(s, buyer, w)
			}
		}
	}
}

// All functions: ErrArg for what is no market.
func TestBadMarkets(t *testing.T) {
	for k, m := range badMarkets() {
		if p, e := market.Prices(m); len(p) != 0 || e != api.ErrArg {
			t.Error("Prices", k, p, e)
		}
		if s, e := market.Spend(m); len(s) != 0 || e != api.ErrArg {
			t.Error("Spend", k, s, e)
		}
		if w, e := market.Worth(m); len(w) != 0 || e != api.ErrArg {
			t.Error("Worth", k, w, e)
		}
		for _, p := range [][]api.Frac{nil, whole(1), whole(1, 1), whole(0, 1)} {
			if l, e := market.Want(m, p); len(l) != 0 || e != api.ErrArg {
				t.Error("Want", k, l, e)
			}
			for _, s := range [][][]api.Frac{nil, {whole(1)}, {whole(1, 0), whole(0, 1)}} {
				if ok, e := market.Check(m, p, s); ok || e != api.ErrArg {
					t.Error("Check", k, ok, e)
				}
			}
		}
	}
}

// The limits of a market are markets.
func TestLimits(t *testing.T) {
	for _, m := range []market.Market{
		{Budgets: []int{1, 20, 1}, Uses: [][]int{{0, 0, 20}, {20, 0, 0}, {0, 1, 0}}},
		{Budgets: []int{20, 20, 20}, Uses: [][]int{{20, 0, 1}, {1, 20, 0}, {0, 1, 20}}},
		{Budgets: []int{1, 1, 20}, Uses: [][]int{{1}, {20}, {1}}},
		{Budgets: []int{1}, Uses: [][]int{{1, 20, 20}}},
	} {
		if p, s := prices(t, m), spend(t, m); !inBalance(m, p, s) {
			t.Error(m, p, s)
		}
	}
}
