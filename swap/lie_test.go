package swap_test

import (
	"math/rand"
	"slices"
	"testing"

	"corrody/api"
	"corrody/swap"
)

// P8.6: Lie.
func TestLieExamples(t *testing.T) {
	for _, c := range []struct {
		w       [][]int
		i, rule int
		list    []int
	}{
		{asked(), 1, 2, []int{1, 0, 2}},
		{asked(), 0, 2, nil},
		{asked(), 2, 2, nil},
		{asked(), 1, 0, nil},
		{asked(), 1, 1, nil},
		{pair(), 2, 2, nil},
		{both(), 1, 2, nil},
		{alone(), 0, 2, nil},
		{same(), 0, 2, nil},
		{same(), 1, 2, nil},
		// Person 4 gets the worst thing, and would get any other one but 4 by asking for it at once: the first such order has just the next worst.
		{same(), 4, 2, []int{1, 0, 2, 3, 4}},
		{ring(), 3, 2, nil},
		// Person 1 gets thing 2, and would get 1, which person 2 asks for at once, by asking for it at once too.
		{crowd(), 1, 2, []int{1, 0, 2, 3}},
		{crowd(), 2, 2, nil},
		// Person 3 asks for 2 together with 1, as thing 1 is taken then.
		{crowd(), 3, 2, []int{2, 0, 1, 3}},
		// Person 3 gets their last wish, 1, and would get 3, which person 2 asks for too, by asking for it at once.
		{[][]int{{0, 1, 2, 3}, {2, 1, 0, 3}, {0, 2, 3, 1}, {0, 3, 2, 1}}, 3, 2, []int{3, 0, 1, 2}},
	} {
		if l := lie(t, c.w, c.i, c.rule); !slices.Equal(l, c.list) {
			t.Error(c.w, c.i, c.rule, l)
		}
	}
}

// P8.6 and P8.9, and P3 of the whole: Lie of everyone by all rules, by the definitions; nobody gains by trading and by choosing.
func TestLieOfMany(t *testing.T) {
	gain, not := map[int]int{}, map[int]int{}
	cases(100, func(w [][]int, r *rand.Rand) {
		for i := range w {
			for rule := range 3 {
				want := firstLie(w, i, rule)
				if l := lie(t, w, i, rule); !slices.Equal(l, want) || rule < 2 && l != nil {
					t.Fatal(w, i, rule, l, want)
				}
				if rule == 2 && want != nil {
					gain[len(w)]++
				} else {
					not[len(w)]++
				}
			}
		}
	})
	for n := 3; n <= 5; n++ {
		if gain[n] < 10 || not[n] < 10 {
			t.Error("too few of a kind", gain, not)
		}
	}
}

// firstLie is the first order by which a person gains, by the definitions, or nil.
func firstLie(w [][]int, i, rule int) []int {
	own := byRule(w, rule)[i]
	for _, list := range orders(len(w)) {
		lying := slices.Clone(w)
		lying[i] = list
		if rank(w, i, byRule(lying, rule)[i]) < rank(w, i, own) {
			return list
		}
	}
	return nil
}

// P8.9: nobody of at most three people, and of many of four and five, gains by trading, and by choosing.
func TestHonest(t *testing.T) {
	cases(400, func(w [][]int, r *rand.Rand) {
		for i := range w {
			for rule := range 2 {
				if l, e := swap.Lie(w, i, rule); len(l) != 0 || e != api.ErrNone {
					t.Fatal(w, i, rule, l, e)
				}
			}
		}
	})
}

// P8.6: ErrArg for what is no wishes, no person, or no rule.
func TestLieBad(t *testing.T) {
	check := func(w [][]int, i, rule int) {
		t.Helper()
		if l, e := swap.Lie(w, i, rule); len(l) != 0 || e != api.ErrArg {
			t.Error(len(w), i, rule, l, e)
		}
	}
	for _, w := range badWishes() {
		for rule := range 3 {
			check(w, 0, rule)
		}
	}
	numbers := []int{-1, -2, 5, 6, 64, 1 << 32, -1 << 32, 1<<63 - 1, -1 << 63}
	for _, w := range examples() {
		for _, bad := range append(numbers, len(w)) {
			for rule := range 3 {
				check(w, bad, rule)
			}
		}
		for _, bad := range append(numbers, 3, 4) {
			for i := range w {
				check(w, i, bad)
			}
			check(w, -1, bad)
		}
	}
}
