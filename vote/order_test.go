package vote_test

import (
	"math/rand"
	"slices"
	"testing"

	"corrody/api"
	"corrody/vote"
)

// P3.3: Disagreement.
func TestDisagreementExamples(t *testing.T) {
	for _, c := range []struct {
		l     [][]int
		order []int
		want  int
	}{
		{circle(), []int{0, 1, 2}, 4},
		{circle(), []int{2, 0, 1}, 4},
		{circle(), []int{2, 1, 0}, 5},
		{peak(), []int{1, 0, 2}, 3},
		{agreed(), []int{2, 0, 1}, 0},
		{agreed(), []int{0, 2, 1}, 3},
		{agreed(), []int{1, 0, 2}, 9},
		{opposed(), []int{2, 0, 3, 1}, 6},
		{alone(), []int{0}, 0},
	} {
		if n, e := vote.Disagreement(c.l, c.order); n != c.want || e != api.OK {
			t.Error(c.l, c.order, n, e)
		}
	}
}

// P3.3: Disagreement, by its definition.
func TestDisagreementOfMany(t *testing.T) {
	cases(500, func(l [][]int, r *rand.Rand) {
		order := r.Perm(len(l[0]))
		if n, e := vote.Disagreement(l, order); n != disagreementOf(l, order) || e != api.OK {
			t.Fatal(l, order, n, e)
		}
	})
}

// P3.3: Kemeny.
func TestKemenyExamples(t *testing.T) {
	for _, c := range []struct {
		l     [][]int
		order []int
		sum   int
	}{
		{circle(), []int{0, 1, 2}, 4},
		{peak(), []int{1, 0, 2}, 3},
		{agreed(), []int{2, 0, 1}, 0},
		{opposed(), []int{0, 1, 2, 3}, 6},
		{apart(), []int{3, 2, 0, 1}, 7},
		{detour(), []int{2, 1, 0}, 2},
		{alone(), []int{0}, 0},
		{[][]int{{1, 0}, {0, 1}}, []int{0, 1}, 1},
		{[][]int{{4, 3, 2, 1, 0}}, []int{4, 3, 2, 1, 0}, 0},
	} {
		if order, sum := kemeny(t, c.l); !slices.Equal(order, c.order) || sum != c.sum {
			t.Error(c.l, order, sum)
		}
	}
}

// P3.3: Kemeny, by its definition.
func TestKemenyOfMany(t *testing.T) {
	cases(300, func(l [][]int, r *rand.Rand) {
		want := kemenyOf(l)
		if order, sum := kemeny(t, l); !slices.Equal(order, want) || sum != disagreementOf(l, want) {
			t.Fatal(l, order, sum)
		}
	})
}

// P3.3: invalid ballots and orders.
func TestKemenyErrors(t *testing.T) {
	for k, l := range badBallots() {
		if order, sum, e := vote.Kemeny(l); order != nil || sum != 0 || e != api.ErrArg {
			t.Error(k, order, sum, e)
		}
		for _, order := range [][]int{nil, {0}, {0, 1}, {0, 1, 2}, {0, 1, 2, 3, 4, 5}} {
			if sum, e := vote.Disagreement(l, order); sum != 0 || e != api.ErrArg {
				t.Error(k, order, sum, e)
			}
		}
	}
	for _, order := range [][]int{nil, {}, {0}, {0, 1}, {0, 1, 1}, {0, 1, 3}, {-1, 0, 1}, {0, 1, 2, 3}, {0, 1, 2, 2}, {0, 1, -1 << 63}, {1<<63 - 1, 0, 1}, make([]int, 100000)} {
		if sum, e := vote.Disagreement(circle(), order); sum != 0 || e != api.ErrArg {
			t.Error(len(order), sum, e)
		}
	}
}
