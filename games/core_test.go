package games_test

import (
	"math/big"
	"math/rand"
	"slices"
	"testing"

	"corrody/api"
	"corrody/games"
)

// P7.1: Core, where there is one slice of payments only.
func TestCoreOfOne(t *testing.T) {
	for _, c := range []struct {
		costs []int
		pay   []api.Frac
	}{
		{alone(), whole(7)},
		{[]int{0, 0}, whole(0)},
		{[]int{0, 1000}, whole(1000)},
		{[]int{0, 3, 4, 7}, whole(3, 4)},
		{[]int{0, 3, 0, 3}, whole(3, 0)},
		{[]int{0, 2, 2, 4, 2, 4, 4, 6}, whole(2, 2, 2)},
		{[]int{0, 9, 9, 4, 9, 5, 7, 8}, whole(1, 3, 4)},
		{[]int{0, 0, 9, 9, 9, 9, 0, 0}, nil},
		{[]int{0, 9, 0, 9, 9, 0, 9, 0}, nil},
		{paidBack(), nil},
		{free(), whole(0, 0, 0, 0)},
		{halves(), []api.Frac{f(1, 2), f(1, 2), f(1, 2), f(1, 2)}},
		{ofSizes(0, 9, 5, 9, 10), []api.Frac{f(5, 2), f(5, 2), f(5, 2), f(5, 2)}},
		{ofSizes(0, 1000, 999, 1000, 1000), nil},
		{ofSizes(0, 1000, 1000, 750, 1000), whole(250, 250, 250, 250)},
		{ofSizes(0, 250, 1000, 1000, 1000), whole(250, 250, 250, 250)},
	} {
		x, found := core(t, c.costs)
		if !found || !inCore(c.costs, x) || c.pay != nil && !slices.Equal(x, c.pay) {
			t.Error(c.costs, x, found)
		}
	}
}

// P7.1: ErrNone, by costs that leave no payments by 1 or less.
func TestNoCore(t *testing.T) {
	for _, c := range [][]int{
		{0, 3, 4, 8},
		{0, 0, 0, 1},
		{0, 1000, -1 + 1, 1000, 0, 999, 1000, 1000},
		torn(),
		{0, 9, 9, 4, 9, 5, 6, 8},
		{0, 9, 9, 3, 9, 3, 3, 5},
		{0, 1, 1, 9, 1, 9, 9, 4},
		dear(),
		ofSizes(0, 1, 1, 1, 3),
		ofSizes(0, 9, 2, 9, 5),
		ofSizes(0, 9, 9, 2, 3),
		ofSizes(0, 1, 9, 9, 5),
	} {
		if x, found := core(t, c); found {
			t.Error(c, x)
		}
		if _, found := refute(t, c); !found {
			t.Error(c)
		}
	}
}

// P7.1: what Core returns is in the core, by the definition.
func TestCoreOfMany(t *testing.T) {
	found, credits := 0, 0
	cases(3000, func(c []int, r *rand.Rand) {
		x, some := core(t, c)
		if !some {
			return
		}
		found++
		if !inCore(c, x) {
			t.Fatal(c, x)
		}
		if slices.ContainsFunc(x, func(a api.Frac) bool { return a.Num < 0 }) {
			credits++
		}
	})
	if found < 1000 || credits < 100 {
		t.Error("too few of a kind", found, credits)
	}
}

// P7.1: Core, where there is one slice of payments only, and nobody pays a whole number: just all pairs pay their costs.
func TestCoreOfHalves(t *testing.T) {
	r := rand.New(rand.NewSource(1))
	for range 200 {
		var x []api.Frac
		var terms []int
		for range 4 {
			terms = append(terms, 2*r.Intn(200)+1)
			x = append(x, f(terms[len(terms)-1], 2))
		}
		c := make([]int, 16)
		for set := range c {
			c[set] = (sumOf(set, terms)+1)/2 + size(set, 4)%2*r.Intn(20)
		}
		if pay, some := core(t, c); !some || !slices.Equal(pay, x) {
			t.Error(c, pay, some, x)
		}
		c[3]--
		if pay, some := core(t, c); some {
			t.Error(c, pay)
		}
		if l, some := refute(t, c); !some || !isRefuted(c, l) {
			t.Error(c, l, some)
		}
	}
}

// P7.1: CheckCore.
func TestCheckCoreExamples(t *testing.T) {
	for _, c := range []struct {
		costs []int
		x     []api.Frac
		right bool
	}{
		{two(), whole(1, 4), true},
		{two(), whole(2, 3), true},
		{two(), whole(3, 2), true},
		{two(), []api.Frac{f(5, 2), f(5, 2)}, true},
		{two(), []api.Frac{f(25, 24), f(95, 24)}, true},
		{two(), whole(0, 5), false},
		{two(), whole(4, 1), false},
		{two(), []api.Frac{f(23, 24), f(97, 24)}, false},
		{two(), []api.Frac{f(73, 24), f(47, 24)}, false},
		// Too little for all, too much, and nearly enough.
		{two(), whole(2, 2), false},
		{two(), whole(3, 3), false},
		{two(), []api.Frac{f(3, 1), f(47, 24)}, false},
		{two(), []api.Frac{f(5, 23), f(110, 23)}, false},
		{two(), []api.Frac{f(43, 23), f(72, 23)}, true},
		{two(), []api.Frac{f(43, 23), f(75, 24)}, false},
		{alone(), whole(7), true},
		{alone(), whole(6), false},
		{alone(), whole(8), false},
		{torn(), whole(2, 2, 2), false},
		{torn(), whole(1, 1, 1), false},
		{even(), whole(3, 1, 1), false},
		{even(), whole(2, 2, 1), true},
		{even(), whole(1, 2, 2), true},
		{even(), []api.Frac{f(5, 3), f(5, 3), f(5, 3)}, true},
		{even(), []api.Frac{f(13, 6), f(5, 3), f(7, 6)}, false},
		{paidBack(), whole(9, 9, -15), true},
		{paidBack(), whole(10, 8, -15), false},
		{halves(), []api.Frac{f(1, 2), f(1, 2), f(1, 2), f(1, 2)}, true},
		{halves(), []api.Frac{f(11, 24), f(13, 24), f(1, 2), f(1, 2)}, false},
		{halves(), whole(1, 0, 1, 0), false},
		{free(), whole(0, 0, 0, 0), true},
		{free(), []api.Frac{f(1, 24), f(-1, 24), f(0, 1), f(0, 1)}, false},
		{greatest(), whole(1000, 1000, -500, -500), false},
		{greatest(), whole(1000, 0, 0, 0), true},
		{greatest(), []api.Frac{f(1001, 1), f(-1, 1), f(0, 1), f(0, 1)}, false},
		{ofSizes(0, 1000, 1000, 1000, 0), whole(500, 500, -500, -500), true},
		{ofSizes(0, 1000, 1000, 1000, 0), whole(1000, 0, 0, -1000), true},
		{ofSizes(0, 1000, 1000, 1000, 0), whole(999, 1, 1, -1001), false},
		{ofSizes(0, 0, 0, 0, 0), whole(100000, -100000, 0, 0), false},
	} {
		if right := checkCore(t, c.costs, c.x); right != c.right || right != inCore(c.costs, c.x) {
			t.Error(c.costs, c.x, right)
		}
	}
}

// P7.1: CheckCore says no to what is no payments.
func TestCheckCoreShapes(t *testing.T) {
	for _, c := range [][]int{two(), even(), free(), alone()} {
		x, _ := core(t, c)
		for k, bad := range [][]api.Frac{nil, {}, x[:len(x)-1], append(slices.Clone(x), f(0, 1)), append(slices.Clone(x), x...), make([]api.Frac, len(x)), make([]api.Frac, 64), make([]api.Frac, 100000)} {
			if checkCore(t, c, bad) {
				t.Error(c, k)
			}
		}
		for at := range x {
			for k, bad := range badFracs() {
				worse := slices.Clone(x)
				worse[at] = bad
				if checkCore(t, c, worse) {
					t.Error(c, at, k)
				}
			}
		}
	}
	// All but the limits would be right.
	for _, x := range [][]api.Frac{{f(51, 25), f(74, 25)}, {f(4, 2), f(3, 1)}, {f(2, 1), f(-3, -1)}, {f(2, 1), f(6, 2)}} {
		if checkCore(t, two(), x) {
			t.Error(x)
		}
	}
	for _, x := range [][]api.Frac{{f(0, 2), f(3, 1)}, {f(0, 24), f(3, 1)}, {f(0, 0), f(3, 1)}, {f(0, -1), f(3, 1)}} {
		if checkCore(t, []int{0, 3, 4, 3}, x) {
			t.Error(x)
		}
	}
}

// multiples are all multiples of 1/den from -1 to 4.
func multiples(den int) []api.Frac {
	var l []api.Frac
	for num := -den; num <= 4*den; num++ {
		l = append(l, frac(rat(f(num, den))))
	}
	return l
}

// P7.1: CheckCore, by the definition, for all payments of some multiples in small costs.
func TestCheckCoreOfAll(t *testing.T) {
	right := 0
	for _, c := range [][]int{{0, 1, 2, 2}, {0, 2, 1, 0}, {0, 1, 2, 4}} {
		// The last one is too great.
		for den := 1; den <= 25; den++ {
			for _, a := range multiples(den) {
				for _, b := range multiples(den) {
					x := []api.Frac{a, b}
					got := checkCore(t, c, x)
					if got != inCore(c, x) {
						t.Fatal(c, x, got)
					}
					if got {
						right++
					}
				}
			}
		}
	}
	if right < 500 {
		t.Error("too few in the core", right)
	}
}

// moved are payments of which one is by a step less and another one more.
func moved(r *rand.Rand, x []api.Frac) []api.Frac {
	other := slices.Clone(x)
	a, b := r.Intn(len(x)), r.Intn(len(x))
	if a != b {
		step := rat(f(r.Intn(8)-2, []int{1, 2, 3, 6, 12}[r.Intn(5)]))
		other[a] = frac(plus(rat(x[a]), step))
		other[b] = frac(minus(rat(x[b]), step))
	}
	return other
}

// P7.1, P7.6 and P7.11: CheckCore and Objects, by the definitions, for payments that are nearly right.
func TestCheckCoreOfMany(t *testing.T) {
	right, wrong, short := 0, 0, 0
	cases(4000, func(c []int, r *rand.Rand) {
		x, found := core(t, c)
		if !found {
			x = shapley(t, c)
		}
		for range 1 + r.Intn(3) {
			x = moved(r, x)
		}
		if r.Intn(5) == 0 {
			at := r.Intn(len(x))
			x[at] = frac(plus(rat(x[at]), rat(f(1, 24))))
		}
		got := checkCore(t, c, x)
		if got != inCore(c, x) {
			t.Fatal(c, x, got)
		}
		if !arePayments(x, playersOf(c)) || paidBy(len(c)-1, x).Cmp(ratOf(c[len(c)-1])) != 0 {
			short++
			if set, e := games.Objects(c, x); set != 0 || e != api.ErrArg {
				t.Fatal(c, x, set, e)
			}
			return
		}
		set := objects(t, c, x)
		if set != mostAbove(c, x) || (set == 0) != got {
			t.Fatal(c, x, set, got)
		}
		if got {
			right++
		} else {
			wrong++
		}
	})
	if right < 500 || wrong < 500 || short < 500 {
		t.Error("too few of a kind", right, wrong, short)
	}
}

// mostAbove is the least of the sets that pay most above their cost, or 0.
func mostAbove(c []int, x []api.Frac) int {
	best, most := 0, new(big.Rat)
	for set := len(c) - 1; set > 0; set-- {
		above := minus(paidBy(set, x), ratOf(c[set]))
		if above.Sign() > 0 && above.Cmp(most) >= 0 {
			best, most = set, above
		}
	}
	return best
}

// P7.6: Objects.
func TestObjectsExamples(t *testing.T) {
	for _, c := range []struct {
		costs []int
		x     []api.Frac
		set   int
	}{
		{even(), whole(3, 1, 1), 1},
		{even(), whole(1, 3, 1), 2},
		{even(), whole(1, 1, 3), 4},
		{even(), whole(2, 2, 1), 0},
		{even(), whole(3, 3, -1), 3},
		{even(), whole(-1, 3, 3), 6},
		{even(), whole(4, 3, -2), 3},
		{even(), whole(4, 2, -1), 1},
		{even(), []api.Frac{f(49, 24), f(47, 24), f(1, 1)}, 1},
		{two(), whole(4, 1), 1},
		{two(), whole(0, 5), 2},
		{two(), whole(1, 4), 0},
		{two(), whole(100000, -99995), 1},
		{two(), whole(-99995, 100000), 2},
		{alone(), whole(7), 0},
		{torn(), whole(2, 2, 2), 3},
		{torn(), whole(3, 2, 1), 3},
		{torn(), whole(1, 3, 2), 6},
		{torn(), whole(3, 0, 3), 5},
		{dear(), whole(250, 250, 250, 250), 7},
		{dear(), whole(0, 500, 500, 0), 6},
		{dear(), whole(0, 0, 0, 1000), 8},
		{dear(), whole(400, 0, 200, 400), 13},
		{free(), whole(0, 0, 0, 0), 0},
		{free(), []api.Frac{f(0, 1), f(1, 24), f(-1, 24), f(0, 1)}, 2},
		{free(), []api.Frac{f(1, 23), f(1, 23), f(-1, 23), f(-1, 23)}, 3},
		{free(), []api.Frac{f(-100000, 23), f(100000, 23), f(-99999, 23), f(99999, 23)}, 10},
	} {
		if set := objects(t, c.costs, c.x); set != c.set || set != mostAbove(c.costs, c.x) {
			t.Error(c.costs, c.x, set)
		}
	}
}

// P7.6: ErrArg unless there are payments that sum to the cost of all.
func TestObjectsOfBad(t *testing.T) {
	for _, c := range [][]int{two(), even(), free(), alone()} {
		good, _ := core(t, c)
		lists := [][]api.Frac{nil, {}, good[1:], append(slices.Clone(good), f(0, 1)), make([]api.Frac, len(good)), make([]api.Frac, 100000)}
		for at := range good {
			for _, bad := range append(badFracs(), f(999, 1), f(-999, 1), f(99999, 24), frac(plus(rat(good[at]), rat(f(1, 24))))) {
				worse := slices.Clone(good)
				worse[at] = bad
				lists = append(lists, worse)
			}
		}
		for k, x := range lists {
			if set, e := games.Objects(c, x); set != 0 || e != api.ErrArg {
				t.Error(c, k, set, e)
			}
		}
	}
	for _, x := range [][]api.Frac{{f(1, 25), f(-1, 25)}, {f(-26, 25), f(26, 25)}, whole(100001, -100001)} {
		if set, e := games.Objects([]int{0, 1, 1, 0}, x); set != 0 || e != api.ErrArg {
			t.Error(x, set, e)
		}
	}
	for _, x := range [][]api.Frac{whole(2, 2), whole(4, 2), whole(0, 0), {f(51, 25), f(74, 25)}, {f(2, 1), f(6, 2)}, whole(100001, -99996), whole(-100001, 100006)} {
		if set, e := games.Objects(two(), x); set != 0 || e != api.ErrArg {
			t.Error(x, set, e)
		}
	}
}

// P7.1, P7.2, P7.3, P7.4 and P7.6: ErrArg for what is no costs, whatever the other arguments are.
func TestBadCosts(t *testing.T) {
	for k, c := range badCosts() {
		n := playersOf(c)
		order := make([]int, n)
		for player := range order {
			order[player] = player
		}
		pay := slices.Repeat(whole(0), n)
		everyone := []games.Part{part(max(1, len(c)-1), 1, 1)}
		if x, e := games.Core(c); len(x) != 0 || e != api.ErrArg {
			t.Error("Core", k, x, e)
		}
		if l, e := games.Refute(c); len(l) != 0 || e != api.ErrArg {
			t.Error("Refute", k, l, e)
		}
		if x, e := games.Shapley(c); len(x) != 0 || e != api.ErrArg {
			t.Error("Shapley", k, x, e)
		}
		if a, b, e := games.Concave(c); a != 0 || b != 0 || e != api.ErrArg {
			t.Error("Concave", k, a, b, e)
		}
		for _, order := range [][]int{nil, order, {9}} {
			if x, e := games.Join(c, order); len(x) != 0 || e != api.ErrArg {
				t.Error("Join", k, x, e)
			}
		}
		for _, x := range [][]api.Frac{nil, pay, {f(0, 0)}} {
			if right, e := games.CheckCore(c, x); right || e != api.ErrArg {
				t.Error("CheckCore", k, right, e)
			}
			if set, e := games.Objects(c, x); set != 0 || e != api.ErrArg {
				t.Error("Objects", k, set, e)
			}
		}
		for _, l := range [][]games.Part{nil, everyone, {part(0, 0, 0)}} {
			if right, e := games.CheckRefute(c, l); right || e != api.ErrArg {
				t.Error("CheckRefute", k, right, e)
			}
		}
	}
}
