package split_test

import (
	"math/rand"
	"slices"
	"testing"

	"corrody/api"
	"corrody/split"
)

// P1.5: Nash.
func TestNashExamples(t *testing.T) {
	for _, c := range []struct {
		v       [][]int
		want    []int
		product int
	}{
		{example(), []int{0, 1, 1}, 30},
		{[][]int{{7}}, []int{0}, 7},
		{[][]int{{0}}, []int{0}, 1},
		{[][]int{{0, 0}, {0, 0}, {0, 0}}, []int{0, 0}, 1},
		// People count before the product does.
		{[][]int{{10, 1}, {1, 0}}, []int{1, 0}, 1},
		// More people than goods: the two who get something.
		{[][]int{{1, 1}, {3, 2}, {2, 3}}, []int{1, 2}, 9},
		// The first one of equal products; a good that is worth nothing goes to person 0.
		{[][]int{{2, 2, 0}, {2, 2, 0}}, []int{0, 1, 0}, 4},
		{[][]int{{0, 5}, {0, 0}}, []int{0, 0}, 5},
		{[][]int{{100, 100, 100, 100, 100, 100, 100}, {100, 100, 100, 100, 100, 100, 100}, {100, 100, 100, 100, 100, 100, 100}, {100, 100, 100, 100, 100, 100, 100}}, []int{0, 0, 1, 1, 2, 2, 3}, 800000000},
	} {
		if d, n, e := split.Nash(c.v); !slices.Equal(d, c.want) || n != c.product || e != api.OK {
			t.Error(c.v, d, n, e)
		}
	}
}

// P1.5: Least.
func TestLeastExamples(t *testing.T) {
	for _, c := range []struct {
		v    [][]int
		want []int
	}{
		{example(), []int{0, 1, 1}},
		{[][]int{{7}}, []int{0}},
		{[][]int{{0, 0}, {0, 0}}, []int{0, 0}},
		// The least worth counts before the sum does.
		{[][]int{{100, 1, 1}, {100, 2, 1}}, []int{0, 1, 1}},
		{[][]int{{10, 1}, {1, 0}}, []int{1, 0}},
		// The least one is 0 in any case, so that the second least one decides.
		{[][]int{{9, 9}, {4, 5}, {5, 4}}, []int{0, 1}},
		{[][]int{{0, 0, 0}, {1, 5, 2}, {5, 1, 2}}, []int{2, 1, 1}},
		{[][]int{{2, 2}, {2, 2}}, []int{0, 1}},
	} {
		if d, e := split.Least(c.v); !slices.Equal(d, c.want) || e != api.OK {
			t.Error(c.v, d, e)
		}
	}
}

// P1.5, P1.6: Nash, Least and Better, by their definitions.
func TestBestOfMany(t *testing.T) {
	cases(300, func(v [][]int, r *rand.Rand) {
		start := randomDivision(r, v)
		divisions := all(len(v), len(v[0]))
		var nashed, least, better, top, high []int
		for _, d := range divisions {
			own := worths(v, d)
			slices.Sort(own)
			people, product := 0, 1
			for _, x := range own {
				if x > 0 {
					people, product = people+1, product*x
				}
			}
			if now := []int{people, product}; slices.Compare(now, top) > 0 {
				nashed, top = d, now
			}
			if slices.Compare(own, high) > 0 {
				least, high = d, own
			}
			if better == nil && isBetter(v, d, start) {
				better = d
			}
		}
		if d, n, e := split.Nash(v); !slices.Equal(d, nashed) || n != top[1] || e != api.OK {
			t.Fatal("Nash", v, d, n, e, nashed, top)
		}
		if d, e := split.Least(v); !slices.Equal(d, least) || e != api.OK {
			t.Fatal("Least", v, d, e, least)
		}
		want := api.OK
		if better == nil {
			want = api.ErrNone
		}
		if d, e := split.Better(v, start); !slices.Equal(d, better) || e != want {
			t.Fatal("Better", v, start, d, e, better)
		}
	})
}

func isBetter(v [][]int, d, than []int) bool {
	a, b := worths(v, d), worths(v, than)
	for i := range a {
		if a[i] < b[i] {
			return false
		}
	}
	return !slices.Equal(a, b)
}

// P1.6: Better.
func TestBetterExamples(t *testing.T) {
	for _, c := range []struct {
		v       [][]int
		d, want []int
		e       api.Errno
	}{
		{example(), []int{1, 1, 0}, nil, api.ErrNone},
		{example(), []int{1, 0, 0}, []int{0, 1, 0}, api.OK},
		{[][]int{{7}}, []int{0}, nil, api.ErrNone},
		{[][]int{{0}, {0}}, []int{1}, nil, api.ErrNone},
		{[][]int{{0}, {1}}, []int{0}, []int{1}, api.OK},
		// Worths that stay as they are make nothing better.
		{[][]int{{2, 2}, {2, 2}}, []int{1, 0}, nil, api.ErrNone},
		{[][]int{{1, 2}, {2, 1}}, []int{0, 1}, []int{1, 0}, api.OK},
	} {
		if d, e := split.Better(c.v, c.d); !slices.Equal(d, c.want) || e != c.e {
			t.Error(c.v, c.d, d, e)
		}
	}
}

// P1.5, P1.6: what is no argument.
func TestBestErrors(t *testing.T) {
	for _, v := range badValues() {
		if d, n, e := split.Nash(v); len(d) > 0 || n != 0 || e != api.ErrArg {
			t.Error("Nash", d, n, e)
		}
		if d, e := split.Least(v); len(d) > 0 || e != api.ErrArg {
			t.Error("Least", d, e)
		}
		for _, d := range [][]int{nil, {0}, {0, 0}} {
			if b, e := split.Better(v, d); len(b) > 0 || e != api.ErrArg {
				t.Error("Better", b, e)
			}
		}
	}
	for _, d := range badDivisions() {
		if b, e := split.Better(example(), d); len(b) > 0 || e != api.ErrArg {
			t.Error("Better", b, e)
		}
	}
}

// P1.8: nothing is better than Nash and Least.
func TestNothingIsBetter(t *testing.T) {
	cases(300, func(v [][]int, r *rand.Rand) {
		for _, f := range []func([][]int) ([]int, api.Errno){nash, split.Least} {
			if d, e := split.Better(v, dealt(t, f, v)); len(d) > 0 || e != api.ErrNone {
				t.Fatal(v, d, e)
			}
		}
	})
}

// P1.8: a chain of Betters ends.
func TestBettersEnd(t *testing.T) {
	cases(300, func(v [][]int, r *rand.Rand) {
		d := randomDivision(r, v)
		// Each one adds at least 1 to the sum of the worths, which is at most that of all goods to all people.
		steps := 0
		for _, row := range v {
			steps += total(row)
		}
		for range steps + 1 {
			b, e := split.Better(v, d)
			if e == api.ErrNone {
				return
			}
			if e != api.OK || !isBetter(v, b, d) {
				t.Fatal(v, d, b, e)
			}
			d = b
		}
		t.Fatal("no end", v)
	})
}
