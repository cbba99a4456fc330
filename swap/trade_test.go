package swap_test

import (
	"math/rand"
	"slices"
	"testing"

	"corrody/api"
	"corrody/swap"
)

// P8.1: Trade and Rounds.
func TestTradeExamples(t *testing.T) {
	for _, c := range []struct {
		w         [][]int
		o, rounds []int
	}{
		{pair(), []int{1, 0, 2}, []int{0, 0, 1}},
		{both(), []int{0, 1}, []int{0, 1}},
		{asked(), []int{0, 1, 2}, []int{0, 1, 2}},
		{alone(), []int{0}, []int{0}},
		{ring(), []int{1, 2, 3, 4, 0}, []int{0, 0, 0, 0, 0}},
		{same(), []int{0, 1, 2, 3, 4}, []int{4, 3, 2, 1, 0}},
		{content(), []int{0, 1, 2, 3}, []int{0, 0, 0, 0}},
		{twoCycles(), []int{3, 2, 1, 0, 4}, []int{0, 0, 0, 0, 1}},
		{inTurn(), []int{3, 4, 2, 0, 1}, []int{2, 1, 0, 2, 1}},
		{crowd(), []int{0, 1, 2, 3}, []int{0, 1, 2, 3}},
	} {
		if o := trade(t, c.w); !slices.Equal(o, c.o) {
			t.Error(c.w, o)
		}
		if r := rounds(t, c.w); !slices.Equal(r, c.rounds) {
			t.Error(c.w, r)
		}
	}
}

// P8.1: Trade and Rounds, by the trading rule written a second time.
func TestTradeOfMany(t *testing.T) {
	late := 0
	cases(5000, func(w [][]int, r *rand.Rand) {
		o, leave := traded(w, members(1<<len(w)-1, len(w)))
		if !slices.Equal(trade(t, w), o) || !slices.Equal(rounds(t, w), leave) {
			t.Fatal(w, o, leave)
		}
		if slices.Max(leave) > 1 {
			late++
		}
	})
	if late < 1000 {
		t.Error("too few of a kind", late)
	}
}

// P8.5: Given.
func TestGivenExamples(t *testing.T) {
	for _, c := range []struct{ w, counts [][]int }{
		{both(), [][]int{{1, 1}, {1, 1}}},
		{pair(), [][]int{{0, 4, 2}, {3, 1, 2}, {3, 1, 2}}},
		{asked(), [][]int{{3, 1, 2}, {3, 1, 2}, {0, 4, 2}}},
		{alone(), [][]int{{1}}},
		{content(), [][]int{{24, 0, 0, 0}, {0, 24, 0, 0}, {0, 0, 24, 0}, {0, 0, 0, 24}}},
		{same(), slices.Repeat([][]int{{24, 24, 24, 24, 24}}, 5)},
	} {
		if counts := given(t, c.w); !sameRows(counts, c.counts) {
			t.Error(c.w, counts)
		}
	}
}

// P8.5: Given, by the definition, and by Trade where things have the names of those to whom they are given.
func TestGivenOfMany(t *testing.T) {
	cases(200, func(w [][]int, r *rand.Rand) {
		n := len(w)
		own := members(1<<n-1, n)
		first, second := table(n), table(n)
		for _, o := range orders(n) {
			end, _ := traded(w, o)
			owners := make([]int, n)
			for person, thing := range o {
				owners[thing] = person
			}
			named := trade(t, renamedWishes(w, own, owners))
			for person := range n {
				first[person][end[person]]++
				second[person][o[named[person]]]++
			}
		}
		if counts := given(t, w); !sameRows(counts, first) || !sameRows(counts, second) {
			t.Fatal(w, counts, first, second)
		}
	})
}

// table is a table for n people of numbers that are 0.
func table(n int) [][]int {
	var l [][]int
	for range n {
		l = append(l, make([]int, n))
	}
	return l
}

// P8.1 and P8.5: ErrArg for what is no wishes.
func TestTradeBad(t *testing.T) {
	for k, w := range badWishes() {
		if o, e := swap.Trade(w); len(o) != 0 || e != api.ErrArg {
			t.Error("Trade", k, o, e)
		}
		if l, e := swap.Rounds(w); len(l) != 0 || e != api.ErrArg {
			t.Error("Rounds", k, l, e)
		}
		if l, e := swap.Given(w); len(l) != 0 || e != api.ErrArg {
			t.Error("Given", k, l, e)
		}
	}
}
