package vote_test

import (
	"math/rand"
	"slices"
	"testing"

	"corrody/api"
	"corrody/vote"
)

// P3.6: Win.
func TestWinExamples(t *testing.T) {
	for _, c := range []struct {
		l    [][]int
		want [4]int // by each rule
	}{
		{circle(), [4]int{0, 0, 0, 0}},
		// All have one first place.
		{peak(), [4]int{0, 1, 1, 1}},
		{agreed(), [4]int{2, 2, 2, 2}},
		{opposed(), [4]int{0, 0, 0, 0}},
		{alone(), [4]int{0, 0, 0, 0}},
		{detour(), [4]int{2, 1, 2, 2}},
		{apart(), [4]int{1, 2, 0, 3}},
		{[][]int{{1, 0}, {0, 1}}, [4]int{0, 0, 0, 0}},
		{[][]int{{1, 0}, {0, 1}, {1, 0}}, [4]int{1, 1, 1, 1}},
		// 2 and 3 are as strong as all others, and 2 comes first; by the order 3 is behind 2 on as many ballots as before it.
		{[][]int{{2, 3, 0, 1}, {3, 2, 1, 0}}, [4]int{2, 2, 2, 2}},
		// First by the most, and last by the most.
		{[][]int{{0, 1, 2}, {0, 1, 2}, {0, 2, 1}, {1, 2, 0}, {1, 2, 0}, {2, 1, 0}, {2, 1, 0}}, [4]int{0, 1, 1, 1}},
	} {
		for rule, want := range c.want {
			if w := win(t, c.l, rule); w != want {
				t.Error(c.l, rule, w)
			}
		}
	}
}

// P3.6: Win, by the definitions of the rules.
func TestWinOfMany(t *testing.T) {
	cases(300, func(l [][]int, r *rand.Rand) {
		for rule := range 4 {
			if w := win(t, l, rule); w != winnerOf(l, rule) {
				t.Fatal(l, rule, w)
			}
		}
	})
}

// P3.6: Lie.
func TestLieExamples(t *testing.T) {
	for _, c := range []struct {
		l      [][]int
		rule   int
		voter  int
		ballot []int // nil: nobody gains
	}{
		{peak(), 0, 2, []int{1, 0, 2}},
		// Without the lie 1 wins by 4 to 3 of 0: voter 0 puts 1 last.
		{peak(), 1, 0, []int{0, 2, 1}},
		// The axis does not stay one: all are in a circle.
		{peak(), 2, 0, []int{0, 2, 1}},
		{agreed(), 0, 0, nil},
		{agreed(), 1, 0, nil},
		{agreed(), 2, 0, nil},
		{agreed(), 3, 0, nil},
		{alone(), 0, 0, nil},
		{alone(), 3, 0, nil},
		{[][]int{{1, 0}, {0, 1}}, 0, 0, nil},
		// In the circle voter 1, who has the winner last, makes their own first or second the winner.
		{circle(), 0, 1, []int{2, 0, 1}},
	} {
		e := api.OK
		if c.ballot == nil {
			e = api.ErrNone
		}
		if voter, ballot, got := vote.Lie(c.l, c.rule); voter != c.voter || !slices.Equal(ballot, c.ballot) || got != e {
			t.Error(c.l, c.rule, voter, ballot, got)
		}
	}
}

// P3.6: Lie, by its definition.
func TestLieOfMany(t *testing.T) {
	r := rand.New(rand.NewSource(2))
	some, none := 0, 0
	for range 60 {
		var l [][]int
		names := 3 + r.Intn(2)
		axis := r.Perm(names)
		peaks := r.Intn(4) == 0
		for range 2 + r.Intn(4) {
			if peaks {
				l = append(l, randomPeak(r, axis))
			} else {
				l = append(l, r.Perm(names))
			}
		}
		for rule := range 4 {
			v, b := lieOf(l, rule)
			voter, ballot, e := vote.Lie(l, rule)
			if voter != v || !slices.Equal(ballot, b) || (e == api.OK) != (b != nil) || e != api.OK && e != api.ErrNone {
				t.Fatal(l, rule, voter, ballot, e)
			}
			if e == api.OK {
				some++
			} else {
				none++
			}
		}
	}
	if some < 50 || none < 50 {
		t.Error("too few of one kind", some, none)
	}
}

// P3.6: invalid ballots and rules.
func TestWinErrors(t *testing.T) {
	for k, l := range badBallots() {
		for _, rule := range []int{0, 1, 2, 3, 4, -1} {
			if w, e := vote.Win(l, rule); w != 0 || e != api.ErrArg {
				t.Error(k, rule, w, e)
			}
			if voter, ballot, e := vote.Lie(l, rule); voter != 0 || ballot != nil || e != api.ErrArg {
				t.Error(k, rule, voter, ballot, e)
			}
		}
	}
	for _, rule := range []int{-1, 4, -1 << 63, 1<<63 - 1} {
		for _, l := range [][][]int{circle(), agreed(), alone()} {
			if w, e := vote.Win(l, rule); w != 0 || e != api.ErrArg {
				t.Error(l, rule, w, e)
			}
			if voter, ballot, e := vote.Lie(l, rule); voter != 0 || ballot != nil || e != api.ErrArg {
				t.Error(l, rule, voter, ballot, e)
			}
		}
	}
}
