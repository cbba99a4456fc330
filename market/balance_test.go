package market_test

import (
	"math/rand"
	"slices"
	"testing"

	"corrody/api"
	"corrody/market"
)

// P4.2: Check.
func TestCheckExamples(t *testing.T) {
	for _, c := range []struct {
		m     market.Market
		p     []api.Frac
		s     [][]api.Frac
		right bool
	}{
		{apart(), whole(1, 1), [][]api.Frac{whole(1, 0), whole(0, 1)}, true},
		// On what is of no use to them.
		{apart(), whole(1, 1), [][]api.Frac{whole(0, 1), whole(1, 0)}, false},
		{alike(), whole(2, 2), [][]api.Frac{whole(2, 1), whole(0, 1)}, true},
		// All goods are paid, and all points are spent, at prices at which nobody wants good 0.
		{alike(), whole(3, 1), [][]api.Frac{whole(3, 0), whole(0, 1)}, false},
		// A buyer spends too little and another one too much.
		{alike(), whole(2, 2), [][]api.Frac{whole(1, 1), whole(1, 1)}, false},
		// A good is paid too little and another one too much.
		{alike(), whole(2, 2), [][]api.Frac{whole(3, 0), whole(0, 1)}, false},
		// Neither the points nor the prices are all there.
		{alike(), whole(1, 1), [][]api.Frac{whole(1, 0), whole(0, 1)}, false},
		{alike(), whole(2, 2), [][]api.Frac{whole(2, 1), whole(0, 0)}, false},
		{alike(), whole(2, 2), [][]api.Frac{whole(2, 1), whole(1, 1)}, false},
		{alike(), whole(2, 3), [][]api.Frac{whole(2, 1), whole(0, 1)}, false},
		// A debt.
		{alike(), whole(2, 2), [][]api.Frac{whole(3, 0), whole(-1, 2)}, false},
		{richer(), []api.Frac{f(10, 3), f(5, 3)}, [][]api.Frac{{f(10, 3), f(2, 3)}, whole(0, 1)}, true},
		{richer(), []api.Frac{f(10, 3), f(5, 3)}, [][]api.Frac{{f(7, 3), f(5, 3)}, whole(1, 0)}, false},
		// Terms that are not the lowest.
		{richer(), []api.Frac{f(20, 6), f(5, 3)}, [][]api.Frac{{f(10, 3), f(2, 3)}, whole(0, 1)}, false},
		{richer(), []api.Frac{f(10, 3), f(5, 3)}, [][]api.Frac{{f(20, 6), f(2, 3)}, whole(0, 1)}, false},
		{richer(), []api.Frac{f(10, 3), f(5, 3)}, [][]api.Frac{{f(10, 3), f(2, 3)}, {f(0, 3), f(1, 1)}}, false},
		{richer(), []api.Frac{f(-10, -3), f(5, 3)}, [][]api.Frac{{f(10, 3), f(2, 3)}, whole(0, 1)}, false},
		{scarce(), whole(9), [][]api.Frac{whole(6), whole(2), whole(1)}, true},
		{scarce(), whole(9), [][]api.Frac{whole(6), whole(1), whole(2)}, false},
		{wide(), whole(2, 2, 2), [][]api.Frac{whole(2, 2, 2)}, false},
		{full(), whole(1, 2, 3), [][]api.Frac{{f(1, 6), f(1, 3), f(1, 2)}, {f(1, 3), f(2, 3), f(1, 1)}, {f(1, 2), f(1, 1), f(3, 2)}}, true},
		{full(), whole(1, 2, 3), [][]api.Frac{{f(1, 6), f(1, 2), f(1, 3)}, {f(1, 3), f(1, 2), f(7, 6)}, {f(1, 2), f(1, 1), f(3, 2)}}, true},
		{full(), whole(1, 2, 3), [][]api.Frac{{f(1, 6), f(1, 2), f(1, 3)}, {f(1, 3), f(2, 3), f(1, 1)}, {f(1, 2), f(1, 1), f(3, 2)}}, false},
		// Terms of any allowed size.
		{market.Market{Budgets: []int{1, 1}, Uses: [][]int{{1, 1}, {1, 1}}}, whole(1, 1), [][]api.Frac{{f(1, 1<<20), f(1<<20-1, 1<<20)}, {f(1<<20-1, 1<<20), f(1, 1<<20)}}, true},
		{market.Market{Budgets: []int{1, 1}, Uses: [][]int{{1, 1}, {1, 1}}}, whole(1, 1), [][]api.Frac{{f(1, 1<<21), f(1<<21-1, 1<<21)}, {f(1<<21-1, 1<<21), f(1, 1<<21)}}, false},
	} {
		if right := check(t, c.m, c.p, c.s); right != c.right || right != inBalance(c.m, c.p, c.s) {
			t.Error(c.m, c.p, c.s, right)
		}
	}
}

// P4.2: Check says no to what is no prices or no spendings.
func TestCheckShapes(t *testing.T) {
	m := richer()
	p, s := prices(t, m), spend(t, m)
	for k, bad := range [][]api.Frac{nil, {}, p[:1], append(slices.Clone(p), f(1, 1)), append(slices.Clone(p), f(0, 1)), make([]api.Frac, 100000)} {
		if check(t, m, bad, s) {
			t.Error("prices", k)
		}
		for buyer := range s {
			rows := cloneRows(s)
			rows[buyer] = bad
			if check(t, m, p, rows) {
				t.Error("row", k, buyer)
			}
		}
	}
	longer := append(cloneRows(s), whole(0, 0))
	for k, bad := range [][][]api.Frac{nil, {}, s[:1], longer, append(slices.Clone(longer), longer...), make([][]api.Frac, 100000)} {
		if check(t, m, p, bad) {
			t.Error("rows", k)
		}
	}
	for k, bad := range badFracs() {
		for good := range p {
			worse := slices.Clone(p)
			worse[good] = bad
			if check(t, m, worse, s) {
				t.Error("price", k, good)
			}
			for buyer := range s {
				rows := cloneRows(s)
				rows[buyer][good] = bad
				if got := check(t, m, p, rows); got != (bad == s[buyer][good]) {
					t.Error("spending", k, buyer, good)
				}
			}
		}
	}
}

// P4.2: each spending is looked at, also if it is none that changes a sum.
func TestCheckZeroes(t *testing.T) {
	m := apart()
	for _, bad := range []api.Frac{f(0, 0), f(0, 2), f(0, -1), f(0, 1<<63-1), f(0, -1<<63)} {
		if check(t, m, whole(1, 1), [][]api.Frac{{f(1, 1), bad}, whole(0, 1)}) || check(t, m, whole(1, 1), [][]api.Frac{whole(1, 0), {bad, f(1, 1)}}) {
			t.Error(bad)
		}
	}
}

// halves returns all rows of so many multiples of 1/2, from 0 to 2.
func halves(n int) [][]api.Frac {
	rows := [][]api.Frac{nil}
	for range n {
		var longer [][]api.Frac
		for _, row := range rows {
			for _, a := range []api.Frac{f(0, 1), f(1, 2), f(1, 1), f(3, 2), f(2, 1)} {
				longer = append(longer, append(slices.Clone(row), a))
			}
		}
		rows = longer
	}
	return rows
}

// P4.2 and P4.5: Check, by the definition, for all spendings of halves of points in a small market. It accepts no prices but Prices.
func TestCheckOfHalves(t *testing.T) {
	accepted := 0
	rows := halves(2)
	for _, uses := range [][]int{{1, 0, 0, 1}, {1, 1, 1, 1}, {2, 1, 1, 1}, {2, 1, 1, 2}, {2, 2, 0, 1}, {2, 1, 2, 1}} {
		for _, budgets := range [][]int{{1, 1}, {1, 2}, {2, 1}} {
			m := market.Market{Budgets: budgets, Uses: [][]int{uses[:2], uses[2:]}}
			p := prices(t, m)
			for _, a := range rows {
				for _, b := range rows {
					paid := []api.Frac{frac(sum([]api.Frac{a[0], b[0]})), frac(sum([]api.Frac{a[1], b[1]}))}
					s := [][]api.Frac{a, b}
					right := check(t, m, paid, s)
					if right != inBalance(m, paid, s) || right && !slices.Equal(paid, p) {
						t.Fatal(m, paid, s, right)
					}
					if right {
						accepted++
					}
				}
			}
		}
	}
	if accepted < 20 {
		t.Error("too few in balance", accepted)
	}
}

// move changes spendings so that the sums of rows and columns stay the same.
func move(r *rand.Rand, s [][]api.Frac) {
	a, b, x, y := r.Intn(len(s)), r.Intn(len(s)), r.Intn(len(s[0])), r.Intn(len(s[0]))
	if a == b || x == y {
		return
	}
	step := rat(f(1, 1+r.Intn(4)))
	for _, at := range [][2]int{{a, x}, {b, y}} {
		s[at[0]][at[1]] = frac(rat(s[at[0]][at[1]]).Add(rat(s[at[0]][at[1]]), step))
	}
	for _, at := range [][2]int{{a, y}, {b, x}} {
		s[at[0]][at[1]] = frac(rat(s[at[0]][at[1]]).Sub(rat(s[at[0]][at[1]]), step))
	}
}

// P4.2 and P4.5: Check, by the definition, for prices and spendings that are nearly right.
func TestCheckOfMany(t *testing.T) {
	right, wrong := 0, 0
	cases(4000, func(m market.Market, r *rand.Rand) {
		p, s := prices(t, m), spend(t, m)
		switch r.Intn(4) {
		case 0:
			move(r, s)
		case 1:
			buyer, good := r.Intn(len(s)), r.Intn(len(p))
			s[buyer][good] = frac(rat(f(r.Intn(9), 1+r.Intn(4))))
		case 2:
			p[r.Intn(len(p))] = frac(rat(f(1+r.Intn(9), 1+r.Intn(4))))
		case 3:
			a, b := r.Intn(len(s)), r.Intn(len(s))
			s[a], s[b] = s[b], s[a]
		}
		got := check(t, m, p, s)
		if got != inBalance(m, p, s) {
			t.Fatal(m, p, s, got)
		}
		if got {
			right++
		} else {
			wrong++
		}
	})
	if right < 500 || wrong < 500 {
		t.Error("too few of a kind", right, wrong)
	}
}

// P4.4: Want.
func TestWantExamples(t *testing.T) {
	for _, c := range []struct {
		m    market.Market
		p    []api.Frac
		want []int
	}{
		{richer(), whole(2, 1), []int{3, 2}},
		{richer(), whole(1, 1), []int{1, 3}},
		{richer(), whole(3, 1), []int{2, 2}},
		{richer(), []api.Frac{f(10, 3), f(5, 3)}, []int{3, 2}},
		{richer(), whole(1<<20, 1<<20), []int{1, 3}},
		{richer(), []api.Frac{f(1, 1<<20), f(1<<20, 1)}, []int{1, 1}},
		{richer(), []api.Frac{f(1<<20, 1), f(1, 1<<20)}, []int{2, 2}},
		{richer(), []api.Frac{f(1<<20-1, 1<<20), f(1<<20-2, 1<<20-1)}, []int{1, 2}},
		{apart(), []api.Frac{f(1, 1), f(1, 9)}, []int{1, 2}},
		{apart(), []api.Frac{f(1<<20, 1), f(1, 1<<20)}, []int{1, 2}},
		{scarce(), whole(7), []int{1, 1, 1}},
		{wide(), whole(3, 2, 4), []int{7}},
		{wide(), whole(3, 2, 5), []int{3}},
		{wide(), whole(3, 3, 4), []int{5}},
		{full(), whole(1, 2, 4), []int{3, 3, 3}},
		{full(), whole(2, 3, 3), []int{4, 4, 4}},
	} {
		if l, e := market.Want(c.m, c.p); !slices.Equal(l, c.want) || e != api.OK {
			t.Error(c.m, c.p, l, e)
		}
	}
}

// P4.4: Want, by the definition.
func TestWantOfMany(t *testing.T) {
	cases(3000, func(m market.Market, r *rand.Rand) {
		most := []int{2, 6, 1 << 20}[r.Intn(3)]
		var p []api.Frac
		for range m.Uses[0] {
			p = append(p, frac(rat(f(1+r.Intn(most), 1+r.Intn(most)))))
		}
		l, e := market.Want(m, p)
		if e != api.OK || len(l) != len(m.Budgets) {
			t.Fatal(m, p, l, e)
		}
		for buyer := range l {
			if l[buyer] != wantsOf(m, p, buyer) {
				t.Fatal(m, p, l)
			}
		}
	})
}

// P4.4: ErrArg for what is no prices of the market's goods.
func TestBadPrices(t *testing.T) {
	m := richer()
	lists := [][]api.Frac{nil, {}, whole(1), whole(1, 1, 1), make([]api.Frac, 2), make([]api.Frac, 100000)}
	for _, bad := range badFracs() {
		lists = append(lists, []api.Frac{bad, f(1, 1)}, []api.Frac{f(1, 1), bad})
	}
	for k, p := range lists {
		if l, e := market.Want(m, p); len(l) != 0 || e != api.ErrArg {
			t.Error(k, l, e)
		}
	}
}
