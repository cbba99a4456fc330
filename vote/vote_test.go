package vote_test

import (
	"math/bits"
	"math/rand"
	"testing"

	"corrody/api"
	"corrody/vote"
)

// P3.1: Margins.
func TestMarginsExamples(t *testing.T) {
	for _, c := range []struct {
		l    [][]int
		want [][]int
	}{
		{circle(), [][]int{{0, 1, -1}, {-1, 0, 1}, {1, -1, 0}}},
		{peak(), [][]int{{0, -1, 1}, {1, 0, 1}, {-1, -1, 0}}},
		{agreed(), [][]int{{0, 3, -3}, {-3, 0, -3}, {3, 3, 0}}},
		{opposed(), [][]int{make([]int, 4), make([]int, 4), make([]int, 4), make([]int, 4)}},
		{apart(), [][]int{{0, 1, -1, -1}, {-1, 0, -1, 1}, {1, 1, 0, -1}, {1, -1, 1, 0}}},
		{detour(), [][]int{{0, -3, -1}, {3, 0, -1}, {1, 1, 0}}},
		{alone(), [][]int{{0}}},
		{[][]int{{1, 0}}, [][]int{{0, -1}, {1, 0}}},
	} {
		if m := margins(t, c.l); !same(m, c.want) {
			t.Error(c.l, m)
		}
	}
}

// P3.1: Margins, by their definition.
func TestMarginsOfMany(t *testing.T) {
	cases(500, func(l [][]int, r *rand.Rand) {
		m := margins(t, l)
		if len(m) != len(l[0]) {
			t.Fatal(l, m)
		}
		for a, row := range m {
			if len(row) != len(l[0]) {
				t.Fatal(l, m)
			}
			for b := range row {
				if a == b && row[b] != 0 || a != b && row[b] != marginOf(l, a, b) {
					t.Fatal(l, m)
				}
			}
		}
	})
}

// P3.1: Best.
func TestBestExamples(t *testing.T) {
	for _, c := range []struct {
		l    [][]int
		want int
	}{
		{circle(), 7},
		{peak(), 2},
		{agreed(), 4},
		{opposed(), 15},
		{apart(), 15},
		{detour(), 4},
		{alone(), 1},
		// A circle that beats the rest.
		{[][]int{{1, 2, 3, 0}, {2, 3, 1, 0}, {3, 1, 2, 0}}, 14},
		// Two that do not beat each other.
		{[][]int{{0, 2, 1}, {2, 0, 1}}, 5},
		// 0 and 1 each beat 2, but 3 beats neither of them, and 2 does not beat 3.
		{[][]int{{0, 1, 2, 3}, {3, 0, 1, 2}}, 15},
	} {
		if set := best(t, c.l); set != c.want {
			t.Error(c.l, set)
		}
	}
}

// P3.1: Best, by its definition.
func TestBestOfMany(t *testing.T) {
	cases(500, func(l [][]int, r *rand.Rand) {
		got := best(t, l)
		if got <= 0 || got >= 1<<len(l[0]) || !dominant(l, got) {
			t.Fatal(l, got)
		}
		for set := 1; set < 1<<len(l[0]); set++ {
			if set != got && dominant(l, set) && bits.OnesCount(uint(set)) <= bits.OnesCount(uint(got)) {
				t.Fatal(l, got, set)
			}
		}
	})
}

// P3.1: invalid ballots.
func TestMarginsErrors(t *testing.T) {
	for k, l := range badBallots() {
		if m, e := vote.Margins(l); m != nil || e != api.ErrArg {
			t.Error(k, m, e)
		}
		if set, e := vote.Best(l); set != 0 || e != api.ErrArg {
			t.Error(k, set, e)
		}
	}
}

// The limits themselves are valid.
func TestGreatestBallots(t *testing.T) {
	l := [][]int{{4, 3, 2, 1, 0}, {4, 3, 2, 1, 0}, {4, 3, 2, 1, 0}, {4, 3, 2, 1, 0}, {4, 3, 2, 1, 0}, {0, 1, 2, 3, 4}, {0, 1, 2, 3, 4}, {0, 1, 2, 3, 4}, {0, 1, 2, 3, 4}}
	if m := margins(t, l); m[4][0] != 1 || m[0][4] != -1 {
		t.Error(m)
	}
	if set := best(t, l); set != 16 {
		t.Error(set)
	}
	if order, n := kemeny(t, l); order[0] != 4 || n != 40 {
		t.Error(order, n)
	}
}
