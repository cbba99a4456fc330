package games_test

import (
	"math/rand"
	"slices"
	"testing"

	"corrody/games"
)

// P7.2: Refute, where one collection only refutes; and where none does, as it costs as much as all, or as a single other set costs less.
func TestRefuteByEachCollection(t *testing.T) {
	count := 0
	for n := 2; n <= 4; n++ {
		for _, l := range collections(n) {
			count++
			c := slices.Repeat([]int{1000}, 1<<n)
			c[0] = 0
			for k, p := range l {
				c[p.Set] = 6 * (1 + k%2)
			}
			sum := costOf(c, l)
			if !sum.IsInt() {
				t.Fatal(l, sum)
			}
			c[len(c)-1] = int(sum.Num().Int64())
			if other, found := refute(t, c); found {
				t.Error(c, other)
			}
			if x, found := core(t, c); !found || !inCore(c, x) {
				t.Error(c, x, found)
			}
			c[len(c)-1]++
			if other, found := refute(t, c); !found || !slices.Equal(bySet(other), l) {
				t.Error(c, l, other, found)
			}
			if x, found := core(t, c); found {
				t.Error(c, x)
			}
			for _, p := range l {
				less := slices.Clone(c)
				less[p.Set] = 1000
				if other, found := refute(t, less); found {
					t.Error(less, other)
				}
			}
		}
	}
	if count != 1+5+41 {
		t.Error("collections", count)
	}
}

// P7.2: what Refute returns refutes costs, by the definition.
func TestRefuteOfMany(t *testing.T) {
	refuted := map[int]int{}
	cases(3000, func(c []int, r *rand.Rand) {
		l, found := refute(t, c)
		if !found {
			return
		}
		if !isRefuted(c, l) {
			t.Fatal(c, l)
		}
		refuted[playersOf(c)]++
	})
	if refuted[2] < 40 || refuted[3] < 200 || refuted[4] < 400 {
		t.Error("too few of a kind", refuted)
	}
}

// P7.2: CheckRefute.
func TestCheckRefuteExamples(t *testing.T) {
	pairs := []games.Part{part(3, 1, 2), part(5, 1, 2), part(6, 1, 2)}
	for _, c := range []struct {
		costs []int
		l     []games.Part
		right bool
	}{
		{torn(), pairs, true},
		{torn(), []games.Part{pairs[2], pairs[0], pairs[1]}, true},
		{torn(), pairs[:2], false},
		{torn(), append(slices.Clone(pairs), part(7, 1, 2)), false},
		{torn(), []games.Part{part(3, 1, 1), part(4, 1, 1)}, true},
		// Just the cost of all, and 1/12 less.
		{torn(), []games.Part{part(1, 1, 1), part(2, 1, 1), part(4, 1, 1)}, false},
		{torn(), []games.Part{part(7, 1, 1)}, false},
		{torn(), []games.Part{part(1, 11, 12), part(2, 11, 12), part(4, 1, 1), part(3, 1, 12)}, true},
		{torn(), []games.Part{part(7, 11, 12), part(1, 1, 12), part(6, 1, 12)}, true},
		{torn(), []games.Part{part(7, 11, 12), part(1, 1, 12), part(2, 1, 12), part(4, 1, 12)}, false},
		{torn(), []games.Part{part(7, 1, 2), part(3, 1, 4), part(5, 1, 4), part(6, 1, 4)}, true},
		{torn(), []games.Part{part(3, 1, 11), part(4, 1, 11), part(7, 10, 11)}, true},
		{torn(), []games.Part{part(3, 1, 13), part(4, 1, 13), part(7, 12, 13)}, false},
		{torn(), []games.Part{part(3, 1, 7), part(5, 2, 7), part(1, 4, 7), part(2, 6, 7), part(4, 5, 7)}, true},
		// A player of whom the Shares sum to less or more than 1.
		{torn(), []games.Part{part(3, 1, 1)}, false},
		{torn(), []games.Part{part(6, 1, 1)}, false},
		{torn(), []games.Part{part(3, 1, 1), part(4, 11, 12)}, false},
		{torn(), []games.Part{part(3, 1, 1), part(5, 1, 1)}, false},
		{torn(), []games.Part{part(3, 2, 3), part(4, 2, 3)}, false},
		{torn(), []games.Part{part(3, 2, 1), part(4, 2, 1)}, false},
		{torn(), []games.Part{part(3, 2, 3), part(5, 1, 3), part(6, 1, 3)}, false},
		// A set twice.
		{torn(), []games.Part{part(3, 1, 2), part(3, 1, 2), part(4, 1, 1)}, false},
		{torn(), []games.Part{part(3, 1, 1), part(4, 1, 2), part(4, 1, 2)}, false},
		// Shares of 0 and less.
		{torn(), []games.Part{part(3, 1, 1), part(4, 1, 1), part(7, 0, 1)}, false},
		{torn(), []games.Part{part(3, 1, 1), part(4, 1, 1), part(6, 0, 1)}, false},
		{torn(), []games.Part{part(3, 3, 2), part(4, 3, 2), part(7, -1, 2)}, false},
		{torn(), []games.Part{part(3, 1, 1), part(5, 1, 1), part(1, -1, 1)}, false},
		// Sets that are none of theirs.
		{torn(), []games.Part{part(3, 1, 1), part(4, 1, 1), part(0, 1, 1)}, false},
		{torn(), []games.Part{part(3, 1, 1), part(4, 1, 1), part(8, 1, 1)}, false},
		{torn(), []games.Part{part(3, 1, 1), part(12, 1, 1)}, false},
		{torn(), []games.Part{part(3, 1, 1), part(-4, 1, 1)}, false},
		{torn(), []games.Part{part(3, 1, 1), part(4|1<<62, 1, 1)}, false},
		{torn(), []games.Part{part(3, 1, 1), part(-1<<63, 1, 1)}, false},
		// Terms that are not the lowest.
		{torn(), []games.Part{part(3, 2, 2), part(4, 1, 1)}, false},
		{torn(), []games.Part{part(3, 1, 1), part(4, -1, -1)}, false},
		{torn(), []games.Part{part(3, 2, 4), part(5, 1, 2), part(6, 1, 2)}, false},
		{alone(), []games.Part{part(1, 1, 1)}, false},
		{alone(), []games.Part{part(1, 1, 2)}, false},
		{two(), []games.Part{part(1, 1, 1), part(2, 1, 1)}, false},
		{[]int{0, 2, 2, 5}, []games.Part{part(1, 1, 1), part(2, 1, 1)}, true},
		{[]int{0, 2, 2, 4}, []games.Part{part(1, 1, 1), part(2, 1, 1)}, false},
		{[]int{0, 499, 500, 1000}, []games.Part{part(1, 1, 12), part(2, 1, 12), part(3, 11, 12)}, true},
		{dear(), []games.Part{part(3, 1, 1), part(12, 1, 1)}, true},
		{dear(), []games.Part{part(7, 1, 3), part(11, 1, 3), part(13, 1, 3), part(14, 1, 3)}, true},
		{dear(), []games.Part{part(7, 1, 3), part(11, 1, 3), part(13, 1, 3), part(14, 2, 3)}, false},
		{dear(), []games.Part{part(15, 1, 1)}, false},
	} {
		if right := checkRefute(t, c.costs, c.l); right != c.right || right != isRefuted(c.costs, c.l) {
			t.Error(c.costs, c.l, right)
		}
	}
}

// P7.2: CheckRefute says no to what is no collection.
func TestCheckRefuteShapes(t *testing.T) {
	for _, c := range [][]int{torn(), dear(), {0, 1, 2, 9}} {
		l, _ := refute(t, c)
		many := slices.Repeat([]games.Part{part(len(c)-1, 1, 12)}, 12)
		for k, bad := range [][]games.Part{nil, {}, l[1:], append(slices.Clone(l), l...), many, make([]games.Part, 64), make([]games.Part, 100000)} {
			if checkRefute(t, c, bad) {
				t.Error(c, k)
			}
		}
		for at := range l {
			for k, bad := range append(badFracs(), f(0, 1), f(-1, 1), f(1, 13), f(12, 13), f(23, 24), f(2, 1), f(1<<62, 1), f(1<<63-1, 12)) {
				worse := slices.Clone(l)
				worse[at].Share = bad
				if checkRefute(t, c, worse) {
					t.Error(c, "share", at, k)
				}
				if checkRefute(t, c, append(slices.Clone(l), games.Part{Set: 1, Share: bad}, games.Part{Set: 2, Share: bad})) {
					t.Error(c, "more shares", k)
				}
			}
			for _, bad := range []int{0, -1, len(c), len(c) | l[at].Set, l[at].Set - len(c), 1<<63 - 1, -1 << 63, -1<<63 | l[at].Set} {
				worse := slices.Clone(l)
				worse[at].Set = bad
				if checkRefute(t, c, worse) {
					t.Error(c, "set", at, bad)
				}
			}
		}
	}
}

// P7.2: the sums of great Shares may not pass an int and come out right.
func TestGreatShares(t *testing.T) {
	for _, shares := range [][2]int{{1 << 62, 1<<62 + 1}, {1<<63 - 1, 2}, {1 << 60, 1<<60 + 1}, {1 << 32, 1<<32 + 1}} {
		for _, l := range [][]games.Part{
			{part(1, shares[0], 1), part(3, shares[1], 1), part(2, shares[0], 1)},
			{part(1, shares[1], 1), part(3, shares[0], 1), part(2, shares[1], 1)},
			{part(1, shares[0], 11), part(3, shares[1], 11), part(2, shares[0], 11)},
		} {
			if checkRefute(t, []int{0, 1, 1, 1000}, l) {
				t.Error(l)
			}
		}
	}
}

// P7.2: CheckRefute, by the definition, for collections of two kinds that are mixed, and such that are nearly right.
func TestCheckRefuteOfMany(t *testing.T) {
	all := map[int][][]games.Part{}
	for n := 2; n <= 4; n++ {
		all[n] = append(collections(n), []games.Part{part(1<<n-1, 1, 1)})
	}
	right, wrong, none := 0, 0, 0
	cases(20000, func(c []int, r *rand.Rand) {
		n := playersOf(c)
		if n == 1 {
			return
		}
		l := mixed(all[n][r.Intn(len(all[n]))], all[n][r.Intn(len(all[n]))], r.Intn(13))
		if l == nil {
			return
		}
		if r.Intn(3) == 0 {
			l[r.Intn(len(l))].Set = r.Intn(len(c))
		}
		if r.Intn(5) == 0 {
			at := r.Intn(len(l))
			l[at].Share = frac(plus(rat(l[at].Share), rat(f(1, 12))))
		}
		r.Shuffle(len(l), func(a, b int) { l[a], l[b] = l[b], l[a] })
		got := checkRefute(t, c, l)
		if got != isRefuted(c, l) {
			t.Fatal(c, l, got)
		}
		if got {
			right++
		} else if isCollection(l, n) {
			wrong++
		} else {
			none++
		}
	})
	if right < 500 || wrong < 500 || none < 500 {
		t.Error("too few of a kind", right, wrong, none)
	}
}
