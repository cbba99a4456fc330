package swap_test

import (
	"math/rand"
	"slices"
	"testing"

	"corrody/api"
	"corrody/swap"
)

// P8.4: Choose.
func TestChooseExamples(t *testing.T) {
	for _, c := range []struct {
		w        [][]int
		order, o []int
	}{
		{pair(), []int{0, 1, 2}, []int{1, 0, 2}},
		{pair(), []int{1, 2, 0}, []int{2, 0, 1}},
		{pair(), []int{2, 1, 0}, []int{2, 1, 0}},
		{pair(), []int{2, 0, 1}, []int{1, 2, 0}},
		{both(), []int{1, 0}, []int{1, 0}},
		{alone(), []int{0}, []int{0}},
		{ring(), []int{3, 1, 4, 0, 2}, []int{1, 2, 3, 4, 0}},
		{same(), []int{3, 1, 4, 0, 2}, []int{1, 3, 0, 4, 2}},
		{crowd(), []int{3, 2, 1, 0}, []int{3, 2, 1, 0}},
	} {
		if o := choose(t, c.w, c.order); !slices.Equal(o, c.o) {
			t.Error(c.w, c.order, o)
		}
	}
}

// P8.3: Order.
func TestOrderExamples(t *testing.T) {
	for _, c := range []struct {
		w        [][]int
		o, order []int
	}{
		{pair(), []int{1, 0, 2}, []int{0, 1, 2}},
		{pair(), []int{1, 2, 0}, []int{0, 2, 1}},
		{pair(), []int{2, 0, 1}, []int{1, 2, 0}},
		{pair(), []int{2, 1, 0}, []int{2, 1, 0}},
		{pair(), []int{0, 1, 2}, nil},
		{pair(), []int{0, 2, 1}, nil},
		{both(), []int{1, 0}, []int{1, 0}},
		{alone(), []int{0}, []int{0}},
		{ring(), []int{1, 2, 3, 4, 0}, []int{0, 1, 2, 3, 4}},
		{ring(), []int{0, 1, 2, 3, 4}, nil},
		{same(), []int{1, 3, 0, 4, 2}, []int{3, 1, 4, 0, 2}},
		{content(), []int{0, 1, 2, 3}, []int{0, 1, 2, 3}},
		{content(), []int{0, 1, 3, 2}, nil},
	} {
		if l := order(t, c.w, c.o); !slices.Equal(l, c.order) {
			t.Error(c.w, c.o, l)
		}
	}
}

// P8.3 and P8.4: Choose in all orders, and Order of all outcomes, by the definition.
func TestOrderOfMany(t *testing.T) {
	given, not := 0, 0
	cases(200, func(w [][]int, r *rand.Rand) {
		var firsts [][]int
		var results [][]int
		for _, l := range orders(len(w)) {
			o := choose(t, w, l)
			if !slices.Equal(o, chosen(w, l)) {
				t.Fatal(w, l, o)
			}
			firsts, results = append(firsts, l), append(results, o)
		}
		for _, o := range orders(len(w)) {
			var want []int
			at := slices.IndexFunc(results, func(result []int) bool { return slices.Equal(result, o) })
			if at >= 0 {
				want = firsts[at]
				given++
			} else {
				not++
			}
			if l := order(t, w, o); !slices.Equal(l, want) {
				t.Fatal(w, o, l, want)
			}
		}
	})
	if given < 1000 || not < 1000 {
		t.Error("too few of a kind", given, not)
	}
}

// P8.4: Chances.
func TestChancesExamples(t *testing.T) {
	for _, c := range []struct{ w, counts [][]int }{
		{pair(), [][]int{{0, 4, 2}, {3, 1, 2}, {3, 1, 2}}},
		{both(), [][]int{{1, 1}, {1, 1}}},
		{asked(), [][]int{{3, 1, 2}, {3, 1, 2}, {0, 4, 2}}},
		{alone(), [][]int{{1}}},
		{ring(), [][]int{{0, 120, 0, 0, 0}, {0, 0, 120, 0, 0}, {0, 0, 0, 120, 0}, {0, 0, 0, 0, 120}, {120, 0, 0, 0, 0}}},
		{same(), slices.Repeat([][]int{{24, 24, 24, 24, 24}}, 5)},
	} {
		if counts := chances(t, c.w); !sameRows(counts, c.counts) {
			t.Error(c.w, counts)
		}
	}
}

// P8.4: Chances, by who may choose first.
func TestChancesOfMany(t *testing.T) {
	cases(300, func(w [][]int, r *rand.Rand) {
		all := members(1<<len(w)-1, len(w))
		counts := table(len(w))
		countChoices(w, all, all, counts)
		if l := chances(t, w); !sameRows(l, counts) {
			t.Fatal(w, l, counts)
		}
	})
}

// countChoices counts what people get in all orders of those who have not chosen yet.
func countChoices(w [][]int, people, things []int, counts [][]int) {
	for _, person := range people {
		thing := topOf(w, person, things)
		counts[person][thing] += len(orders(len(people) - 1))
		countChoices(w, without(people, person), without(things, thing), counts)
	}
}

// P8.4: ErrArg for what is no wishes, and for what is no order of all people.
func TestChoiceBad(t *testing.T) {
	check := func(w [][]int, l []int) {
		t.Helper()
		if o, e := swap.Choose(w, l); len(o) != 0 || e != api.ErrArg {
			t.Error("Choose", len(w), len(l), o, e)
		}
	}
	for k, w := range badWishes() {
		n := len(w) % 100
		check(w, members(1<<n-1, n))
		if l, e := swap.Chances(w); len(l) != 0 || e != api.ErrArg {
			t.Error("Chances", k, l, e)
		}
	}
	for _, w := range examples() {
		for _, l := range badOrders(len(w)) {
			check(w, l)
		}
	}
}
