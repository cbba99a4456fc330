package market_test

import (
	"math/rand"
	"reflect"
	"slices"
	"testing"

	"corrody/api"
	"corrody/market"
)

// P4.5, and P1 of the whole: Check accepts Prices with Spend, and the prices sum to the budgets' sum.
func TestBalance(t *testing.T) {
	cases(2000, func(m market.Market, r *rand.Rand) {
		p := prices(t, m)
		if !check(t, m, p, spend(t, m)) || sum(p).Cmp(sumOf(m.Budgets)) != 0 {
			t.Fatal(m, p)
		}
	})
}

// P4.5: no other prices that sum to the budgets' sum can be in balance.
func TestNoOtherPrices(t *testing.T) {
	cases(500, func(m market.Market, r *rand.Rand) {
		p := prices(t, m)
		for range 20 {
			var other []api.Frac
			rest := sumOf(m.Budgets)
			for range len(p) - 1 {
				part := product(rest, rat(f(1+r.Intn(5), 6)))
				other = append(other, frac(part))
				rest.Sub(rest, part)
			}
			other = append(other, frac(rest))
			if slices.Equal(other, p) {
				continue
			}
			if canBalance(m, other) || check(t, m, other, spend(t, m)) {
				t.Fatal(m, p, other)
			}
		}
	})
}

// P4.6: nobody would have more worth by what another one gets, times their own budget divided by that one's.
func TestNobodyEnvies(t *testing.T) {
	cases(1000, func(m market.Market, r *rand.Rand) {
		p, s := prices(t, m), spend(t, m)
		for a, own := range worth(t, m) {
			for b := range s {
				share := quotient(ratOf(m.Budgets[a]), ratOf(m.Budgets[b]))
				if rat(own).Cmp(product(share, worthOf(m, p, a, s[b]))) < 0 {
					t.Fatal(m, a, b)
				}
			}
		}
	})
}

// P4.7: everyone has at least their budget's part of everything.
func TestEveryonesPart(t *testing.T) {
	cases(1000, func(m market.Market, r *rand.Rand) {
		for buyer, own := range worth(t, m) {
			part := quotient(ratOf(m.Budgets[buyer]), sumOf(m.Budgets))
			if rat(own).Cmp(product(part, sumOf(m.Uses[buyer]))) < 0 {
				t.Fatal(m, buyer)
			}
		}
	})
}

// scaled is numbers times another one, or nil if one passes the limits.
func scaled(l []int, by int) []int {
	var scaled []int
	for _, n := range l {
		if n*by > 20 {
			return nil
		}
		scaled = append(scaled, n*by)
	}
	return scaled
}

// P4.8: a buyer's uses times a number change no prices; all budgets times a number multiply all prices.
func TestUnits(t *testing.T) {
	changed := 0
	cases(1000, func(m market.Market, r *rand.Rand) {
		p, by := prices(t, m), 2+r.Intn(4)
		for buyer := range m.Uses {
			other := clone(m)
			other.Uses[buyer] = scaled(m.Uses[buyer], by)
			if other.Uses[buyer] == nil {
				continue
			}
			changed++
			if !slices.Equal(prices(t, other), p) {
				t.Fatal(m, other)
			}
		}
		other := clone(m)
		other.Budgets = scaled(m.Budgets, by)
		if other.Budgets == nil {
			return
		}
		changed++
		for good, price := range prices(t, other) {
			if rat(price).Cmp(product(rat(p[good]), ratOf(by))) != 0 {
				t.Fatal(m, other)
			}
		}
	})
	if changed < 1000 {
		t.Error("too few other units", changed)
	}
}

// P4.9: no price falls if a budget is raised.
func TestMore(t *testing.T) {
	cases(1000, func(m market.Market, r *rand.Rand) {
		p := prices(t, m)
		for buyer, budget := range m.Budgets {
			if budget == 20 {
				continue
			}
			other := clone(m)
			other.Budgets[buyer] += 1 + r.Intn(20-budget)
			for good, price := range prices(t, other) {
				if rat(price).Cmp(rat(p[good])) < 0 {
					t.Fatal(m, other, good)
				}
			}
		}
	})
}

// P4.10: goods of the same use to everyone have the same price.
func TestAlikeGoods(t *testing.T) {
	found := 0
	cases(3000, func(m market.Market, r *rand.Rand) {
		p := prices(t, m)
		for a := range p {
			for b := range a {
				if slices.ContainsFunc(m.Uses, func(row []int) bool { return row[a] != row[b] }) {
					continue
				}
				found++
				if p[a] != p[b] {
					t.Fatal(m, p)
				}
			}
		}
	})
	if found < 300 {
		t.Error("too few alike", found)
	}
}

// All functions do the same for buyers and goods in another order.
func TestOrderOfBuyersAndGoods(t *testing.T) {
	cases(500, func(m market.Market, r *rand.Rand) {
		buyers, goods := r.Perm(len(m.Budgets)), r.Perm(len(m.Uses[0]))
		var other market.Market
		for _, buyer := range buyers {
			other.Budgets = append(other.Budgets, m.Budgets[buyer])
			var row []int
			for _, good := range goods {
				row = append(row, m.Uses[buyer][good])
			}
			other.Uses = append(other.Uses, row)
		}
		for at, price := range prices(t, other) {
			if price != prices(t, m)[goods[at]] {
				t.Fatal(m, other)
			}
		}
		for at, own := range worth(t, other) {
			if own != worth(t, m)[buyers[at]] {
				t.Fatal(m, other)
			}
		}
	})
}

// Rules 2 and 4: the same calls give the same results, change no argument, and share no memory with anything.
func TestMemory(t *testing.T) {
	m, p := alike(), whole(2, 2)
	s := [][]api.Frac{whole(2, 1), whole(0, 1)}
	calls := []func() [][]api.Frac{
		func() [][]api.Frac { return spend(t, m) },
		func() [][]api.Frac { return [][]api.Frac{prices(t, m)} },
		func() [][]api.Frac { return [][]api.Frac{worth(t, m)} },
		func() [][]api.Frac {
			l := ok[[]int](t)(market.Want(m, p))
			wants := whole(l...)
			l[0] = 9
			return [][]api.Frac{wants}
		},
	}
	for k, call := range calls {
		first := call()
		kept := cloneRows(first)
		for at, row := range first {
			for x := range row {
				row[x] = f(9, 9)
			}
			_ = append(row[:len(row):cap(row)], f(9, 9))
			for _, other := range first[at+1:] {
				if slices.Contains(other, f(9, 9)) {
					t.Error(k, "rows that share memory")
				}
			}
		}
		if again := call(); !slices.EqualFunc(again, kept, slices.Equal) || len(kept[0]) == 0 {
			t.Error(k, kept, again)
		}
	}
	for range 2 {
		if !check(t, m, p, s) {
			t.Error("Check")
		}
	}
	if !reflect.DeepEqual(m, alike()) || !slices.Equal(p, whole(2, 2)) || !reflect.DeepEqual(s, [][]api.Frac{whole(2, 1), whole(0, 1)}) {
		t.Error(m, p, s)
	}
}

// Rule 4: the rows of a market and of spendings may share memory.
func TestSharedRows(t *testing.T) {
	row, half := []int{1, 1}, []api.Frac{f(1, 2), f(1, 2)}
	m := market.Market{Budgets: row, Uses: [][]int{row, row}}
	if p := prices(t, m); !slices.Equal(p, whole(1, 1)) {
		t.Error(p)
	}
	if !check(t, m, whole(1, 1), [][]api.Frac{half, half}) {
		t.Error("Check")
	}
	if !slices.Equal(row, []int{1, 1}) || !slices.Equal(half, []api.Frac{f(1, 2), f(1, 2)}) {
		t.Error(row, half)
	}
}
