package games_test

import (
	"math/big"
	"math/rand"
	"slices"
	"testing"

	"corrody/api"
	"corrody/games"
)

// joined is what each player pays in an order, by the definition.
func joined(c, order []int) []int {
	x := make([]int, len(order))
	for at, player := range order {
		before := 0
		for _, other := range order[:at] {
			before += 1 << other
		}
		x[player] = c[before+1<<player] - c[before]
	}
	return x
}

// P7.3: Join.
func TestJoinExamples(t *testing.T) {
	for _, c := range []struct{ costs, order, x []int }{
		{two(), []int{0, 1}, []int{3, 2}},
		{two(), []int{1, 0}, []int{1, 4}},
		{alone(), []int{0}, []int{7}},
		{torn(), []int{0, 1, 2}, []int{2, 1, 3}},
		{torn(), []int{2, 0, 1}, []int{1, 3, 2}},
		{torn(), []int{1, 2, 0}, []int{3, 2, 1}},
		{paidBack(), []int{0, 1, 2}, []int{9, 9, -15}},
		{paidBack(), []int{2, 1, 0}, []int{1, 2, 0}},
		{greatest(), []int{3, 1, 2, 0}, []int{0, 0, 0, 1000}},
		{dear(), []int{3, 1, 2, 0}, []int{1000, 0, 0, 0}},
		{[]int{0, 1, 2, 4, 8, 16, 32, 64, 128, 256, 512, 1000, 3, 5, 7, 9}, []int{2, 0, 3, 1}, []int{8, 4, 8, -11}},
	} {
		if x := join(t, c.costs, c.order); !slices.Equal(x, c.x) || !slices.Equal(x, joined(c.costs, c.order)) {
			t.Error(c.costs, c.order, x)
		}
	}
}

// P7.3 and P7.8: Join of every order, by the definition; what it returns sums to the cost of all; Shapley is the average.
func TestJoinAndShapleyOfMany(t *testing.T) {
	dens := map[int]int{}
	cases(1500, func(c []int, r *rand.Rand) {
		n := playersOf(c)
		all := orders(n)
		sums := make([]int, n)
		for _, order := range all {
			x := join(t, c, order)
			if !slices.Equal(x, joined(c, order)) || sumOf(len(c)-1, x) != c[len(c)-1] {
				t.Fatal(c, order, x)
			}
			for player := range n {
				sums[player] += x[player]
			}
		}
		x := shapley(t, c)
		if len(x) != n || paidBy(len(c)-1, x).Cmp(ratOf(c[len(c)-1])) != 0 {
			t.Fatal(c, x)
		}
		for player := range n {
			if x[player] != frac(big.NewRat(int64(sums[player]), int64(len(all)))) {
				t.Fatal(c, x, sums)
			}
			dens[x[player].Den]++
		}
	})
	for _, den := range []int{1, 2, 3, 4, 6, 12} {
		if dens[den] < 100 {
			t.Error("too few of a kind", dens)
		}
	}
}

// P7.3: ErrArg unless there is an order of the players.
func TestJoinOfBad(t *testing.T) {
	for _, c := range [][]int{alone(), two(), torn(), free()} {
		n := playersOf(c)
		good := orders(n)[0]
		lists := [][]int{nil, {}, good[1:], append(slices.Clone(good), n), append(slices.Clone(good), 0), append(slices.Clone(good), -1), slices.Repeat([]int{n - 1}, 5), make([]int, 64), make([]int, 100000)}
		for at := range good {
			for _, bad := range []int{-1, n, 4, 63, 64, 1 << 32, 1<<63 - 1, -1 << 63, at + 64, good[(at+1)%n]} {
				worse := slices.Clone(good)
				worse[at] = bad
				if bad != good[at] {
					lists = append(lists, worse)
				}
			}
		}
		for k, order := range lists {
			if x, e := games.Join(c, order); len(x) != 0 || e != api.ErrArg {
				t.Error(c, k, x, e)
			}
		}
	}
}

// P7.3: Shapley.
func TestShapleyExamples(t *testing.T) {
	for _, c := range []struct {
		costs []int
		x     []api.Frac
	}{
		{two(), whole(2, 3)},
		{[]int{0, 3, 4, 4}, []api.Frac{f(3, 2), f(5, 2)}},
		{alone(), whole(7)},
		{[]int{0, 0}, whole(0)},
		{torn(), whole(2, 2, 2)},
		{even(), []api.Frac{f(5, 3), f(5, 3), f(5, 3)}},
		{paidBack(), []api.Frac{f(5, 1), f(11, 2), f(-15, 2)}},
		{free(), whole(0, 0, 0, 0)},
		{greatest(), whole(250, 250, 250, 250)},
		{halves(), []api.Frac{f(1, 2), f(1, 2), f(1, 2), f(1, 2)}},
		{[]int{0, 0, 0, 0, 0, 0, 0, 1, 0, 0, 0, 0, 0, 0, 0, 0}, []api.Frac{f(1, 12), f(1, 12), f(1, 12), f(-1, 4)}},
		{[]int{0, 1, 0, 0, 0, 0, 0, 0, 0, 0, 0, 0, 0, 0, 0, 0}, []api.Frac{f(1, 4), f(-1, 12), f(-1, 12), f(-1, 12)}},
		{[]int{0, 0, 0, 1000, 0, 0, 0, 0, 0, 0, 0, 0, 0, 0, 0, 0}, []api.Frac{f(250, 3), f(250, 3), f(-250, 3), f(-250, 3)}},
	} {
		if x := shapley(t, c.costs); !slices.Equal(x, c.x) {
			t.Error(c.costs, x)
		}
	}
}

// firstNotConcave are the first two sets, by the definition, and whether there are such.
func firstNotConcave(c []int) ([2]int, bool) {
	for a := range c {
		for b := range c {
			union, common := 0, 0
			for player := range playersOf(c) {
				if in(a, player) || in(b, player) {
					union += 1 << player
				}
				if in(a, player) && in(b, player) {
					common += 1 << player
				}
			}
			if c[union]+c[common] > c[a]+c[b] {
				return [2]int{a, b}, true
			}
		}
	}
	return [2]int{}, false
}

// P7.4: Concave.
func TestConcaveExamples(t *testing.T) {
	for _, c := range []struct {
		costs []int
		sets  [2]int
		found bool
	}{
		{alone(), [2]int{}, false},
		{two(), [2]int{}, false},
		{[]int{0, 3, 4, 7}, [2]int{}, false},
		{[]int{0, 3, 4, 8}, [2]int{1, 2}, true},
		{torn(), [2]int{1, 6}, true},
		{even(), [2]int{}, false},
		{paidBack(), [2]int{}, false},
		{free(), [2]int{}, false},
		{greatest(), [2]int{}, false},
		{halves(), [2]int{3, 5}, true},
		{dear(), [2]int{1, 14}, true},
		{ofSizes(0, 10, 19, 27, 34), [2]int{}, false},
		{ofSizes(0, 10, 19, 28, 38), [2]int{3, 13}, true},
		{ofSizes(0, 10, 21, 21, 21), [2]int{1, 2}, true},
	} {
		sets, found := concave(t, c.costs)
		if sets != c.sets || found != c.found {
			t.Error(c.costs, sets, found)
		}
		if first, some := firstNotConcave(c.costs); sets != first || found != some {
			t.Error(c.costs, sets, found)
		}
	}
}

// P7.4: Concave, by the definition, and by what one player's cost rises by.
func TestConcaveOfMany(t *testing.T) {
	is, is3 := 0, 0
	found := map[[2]int]int{}
	cases(6000, func(c []int, r *rand.Rand) {
		sets, some := concave(t, c)
		if first, other := firstNotConcave(c); sets != first || some != other || some == isConcave(c) {
			t.Fatal(c, sets, some)
		}
		if some {
			found[sets]++
			return
		}
		is++
		if playersOf(c) > 2 {
			is3++
		}
	})
	if is < 500 || is3 < 500 || len(found) < 15 {
		t.Error("too few of a kind", is, is3, found)
	}
}
