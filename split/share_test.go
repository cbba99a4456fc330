package split_test

import (
	"math/rand"
	"slices"
	"testing"

	"corrody/api"
	"corrody/split"
)

// leastPart returns the least worth of the n parts of d.
func leastPart(l, d []int, n int) int {
	sums := make([]int, n)
	for g, part := range d {
		sums[part] += l[g]
	}
	return slices.Min(sums)
}

// P1.4: Share and Split.
func TestShareExamples(t *testing.T) {
	for _, c := range []struct {
		l       []int
		n, want int
	}{
		{[]int{5, 3, 1}, 2, 4},
		{[]int{5, 3, 1}, 1, 9},
		{[]int{5, 3, 1}, 3, 1},
		{[]int{5, 3, 1}, 4, 0},
		{[]int{5, 3, 1}, 7, 0},
		{[]int{0}, 1, 0},
		{[]int{100}, 1, 100},
		{[]int{100}, 2, 0},
		{[]int{0, 0, 5}, 2, 0},
		{[]int{1, 1, 1, 1, 1, 1, 1}, 7, 1},
		{[]int{100, 100, 100, 100, 100, 100, 100}, 1, 700},
		{[]int{3, 3, 2, 2, 2}, 2, 6},
		{[]int{4, 4, 3, 3, 2, 2, 6}, 3, 8},
	} {
		if s, e := split.Share(c.l, c.n); s != c.want || e != api.OK {
			t.Error(c.l, c.n, s, e)
		}
		checkSplit(t, c.l, c.n, c.want)
	}
}

func checkSplit(t *testing.T, l []int, n, share int) {
	t.Helper()
	d, e := split.Split(l, n)
	if e != api.OK || len(d) != len(l) || slices.Min(d) < 0 || slices.Max(d) >= n {
		t.Fatal(l, n, d, e)
	}
	if least := leastPart(l, d, n); least != share {
		t.Error(l, n, d, "least part", least, "share", share)
	}
}

// P1.4: Share and Split, by their definitions.
func TestShareOfMany(t *testing.T) {
	r := rand.New(rand.NewSource(2))
	for n := 1; n <= 7; n++ {
		for goods := 1; goods <= 7; goods++ {
			if n > 4 && goods > 6 {
				continue // too many divisions to go through; TestShareExamples has some
			}
			divisions := all(n, goods)
			for range 10 {
				l := randomValues(r, 1, goods)[0]
				want := 0
				for _, d := range divisions {
					want = max(want, leastPart(l, d, n))
				}
				if s := share(t, l, n); s != want {
					t.Error(l, n, s, want)
				}
				checkSplit(t, l, n, want)
			}
		}
	}
}

// P1.4: what is no argument.
func TestShareErrors(t *testing.T) {
	check := func(l []int, n int) {
		if s, e := split.Share(l, n); s != 0 || e != api.ErrArg {
			t.Error("Share", n, s, e)
		}
		if d, e := split.Split(l, n); len(d) > 0 || e != api.ErrArg {
			t.Error("Split", n, d, e)
		}
	}
	for _, l := range badRows() {
		check(l, 2)
	}
	for _, n := range []int{0, -1, 8, -1 << 63, 1<<63 - 1} {
		check([]int{5, 3, 1}, n)
	}
}

// P1.9: one of two people splits, the other one takes: both get their share.
func TestSplitAndTake(t *testing.T) {
	r := rand.New(rand.NewSource(3))
	for range 2000 {
		v := randomValues(r, 2, 1+r.Intn(api.MaxGoods))
		d, e := split.Split(v[0], 2)
		if e != api.OK {
			t.Fatal(v, e)
		}
		taken := 0
		if worth(v[1], d, 1) > worth(v[1], d, 0) {
			taken = 1
		}
		if worth(v[1], d, taken) < share(t, v[1], 2) || worth(v[0], d, 1-taken) < share(t, v[0], 2) {
			t.Fatal(v, d, taken)
		}
	}
}

// P1.9: Share times n is at most what all goods are worth.
func TestShareBound(t *testing.T) {
	r := rand.New(rand.NewSource(4))
	for range 300 {
		l := randomValues(r, 1, 1+r.Intn(api.MaxGoods))[0]
		for n := 1; n <= 7; n++ {
			if share(t, l, n)*n > total(l) {
				t.Fatal(l, n)
			}
		}
	}
}

// P1.9: in Rounds each one has at least the share of 2 n - 1 people.
func TestRoundsShare(t *testing.T) {
	cases(2000, func(v [][]int, r *rand.Rand) {
		d := dealt(t, split.Rounds, v)
		for i, row := range v {
			if worth(row, d, i) < share(t, row, 2*len(v)-1) {
				t.Fatal(v, d, i)
			}
		}
	})
}
