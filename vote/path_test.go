package vote_test

import (
	"math/rand"
	"slices"
	"testing"

	"corrody/api"
	"corrody/vote"
)

// P3.2: Widths.
func TestWidthsExamples(t *testing.T) {
	for _, c := range []struct {
		l    [][]int
		want [][]int
	}{
		{circle(), [][]int{{0, 1, 1}, {1, 0, 1}, {1, 1, 0}}},
		{peak(), [][]int{{0, -1, 1}, {1, 0, 1}, {-1, -1, 0}}},
		{agreed(), [][]int{{0, 3, -3}, {-3, 0, -3}, {3, 3, 0}}},
		{opposed(), [][]int{make([]int, 4), make([]int, 4), make([]int, 4), make([]int, 4)}},
		{apart(), [][]int{{0, 1, 1, 1}, {1, 0, 1, 1}, {1, 1, 0, 1}, {1, 1, 1, 0}}},
		{detour(), [][]int{{0, -1, -1}, {3, 0, -1}, {1, 1, 0}}},
		{alone(), [][]int{{0}}},
		// 0 beats 1 by 5, 1 beats 2 by 3, and 2 beats 0 by 1: the circle is as wide as what it goes through.
		{[][]int{{0, 1, 2}, {0, 1, 2}, {0, 1, 2}, {1, 2, 0}, {2, 0, 1}, {2, 0, 1}, {2, 0, 1}}, [][]int{{0, 5, 1}, {1, 0, 1}, {1, 1, 0}}},
	} {
		if m := widths(t, c.l); !same(m, c.want) {
			t.Error(c.l, m)
		}
	}
}

// P3.2: Widths, by their definition.
func TestWidthsOfMany(t *testing.T) {
	cases(300, func(l [][]int, r *rand.Rand) {
		m := widths(t, l)
		if len(m) != len(l[0]) {
			t.Fatal(l, m)
		}
		for a, row := range m {
			if len(row) != len(l[0]) {
				t.Fatal(l, m)
			}
			for b := range row {
				if a == b && row[b] != 0 || a != b && row[b] != widthOf(l, a, b) {
					t.Fatal(l, m)
				}
			}
		}
	})
}

// P3.2: Path.
func TestPathExamples(t *testing.T) {
	for _, c := range []struct {
		l    [][]int
		want []int
	}{
		{circle(), []int{0, 1}},
		{circle(), []int{0, 1, 2}},
		{circle(), []int{1, 2, 0}},
		{peak(), []int{0, 2}},
		{agreed(), []int{2, 1}},
		// A longer path would be as wide.
		{agreed(), []int{0, 2}},
		{agreed(), []int{1, 0}},
		{opposed(), []int{3, 0}},
		{apart(), []int{0, 1, 3, 2}},
		{apart(), []int{1, 3, 0}},
		// There is another one through 2.
		{apart(), []int{3, 0, 1}},
		{detour(), []int{0, 2, 1}},
		{detour(), []int{1, 2}},
		{[][]int{{1, 0}}, []int{0, 1}},
	} {
		if path, e := vote.Path(c.l, c.want[0], c.want[len(c.want)-1]); !slices.Equal(path, c.want) || e != api.OK {
			t.Error(c.l, c.want, path, e)
		}
	}
}

// P3.2: Path, by its definition.
func TestPathOfMany(t *testing.T) {
	longest := 0
	cases(300, func(l [][]int, r *rand.Rand) {
		for a := range l[0] {
			for b := range l[0] {
				if a == b {
					continue
				}
				all := paths(len(l[0]), a, b)
				width := widthOf(l, a, b)
				want := all[slices.IndexFunc(all, func(path []int) bool { return strengthOf(l, path) == width })]
				path, e := vote.Path(l, a, b)
				if !slices.Equal(path, want) || e != api.OK {
					t.Fatal(l, a, b, path, e)
				}
				longest = max(longest, len(path))
			}
		}
	})
	if longest < 4 {
		t.Error("too short paths", longest)
	}
}

// P3.2: invalid ballots and candidates.
func TestPathErrors(t *testing.T) {
	for k, l := range badBallots() {
		if m, e := vote.Widths(l); m != nil || e != api.ErrArg {
			t.Error(k, m, e)
		}
		for _, to := range []int{0, 1} {
			if path, e := vote.Path(l, 0, to); path != nil || e != api.ErrArg {
				t.Error(k, path, e)
			}
		}
	}
	for _, c := range [][2]int{{0, 0}, {2, 2}, {0, 3}, {3, 0}, {-1, 0}, {0, -1}, {3, 4}, {0, 4}, {4, 0}, {-1 << 63, 0}, {1<<63 - 1, 0}, {0, -1 << 63}, {0, 1<<63 - 1}} {
		if path, e := vote.Path(circle(), c[0], c[1]); path != nil || e != api.ErrArg {
			t.Error(c, path, e)
		}
	}
	for b := range 2 {
		if path, e := vote.Path(alone(), 0, b); path != nil || e != api.ErrArg {
			t.Error(b, path, e)
		}
	}
}
