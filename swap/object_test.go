package swap_test

import (
	"math/rand"
	"slices"
	"testing"

	"corrody/api"
	"corrody/swap"
)

// P8.2: Objects: the fewest people first, and then the least number.
func TestObjectsExamples(t *testing.T) {
	for _, c := range []struct {
		w     [][]int
		o     []int
		group int // 0: none
	}{
		{pair(), []int{0, 1, 2}, 3},
		{pair(), []int{1, 0, 2}, 0},
		{pair(), []int{0, 2, 1}, 2},
		{pair(), []int{2, 0, 1}, 1},
		{pair(), []int{2, 1, 0}, 1},
		{both(), []int{0, 1}, 0},
		{both(), []int{1, 0}, 1},
		{alone(), []int{0}, 0},
		{ring(), []int{0, 1, 2, 3, 4}, 31},
		{ring(), []int{1, 2, 3, 4, 0}, 0},
		{same(), []int{4, 3, 2, 1, 0}, 8},
		{same(), []int{1, 2, 3, 4, 0}, 16},
		{content(), []int{0, 1, 3, 2}, 4},
		{twoCycles(), []int{0, 1, 2, 3, 4}, 3},
		{twoCycles(), []int{3, 1, 2, 0, 4}, 6},
		{twoCycles(), []int{0, 2, 1, 3, 4}, 9},
		{twoCycles(), []int{3, 2, 0, 1, 4}, 6},
		// A group of one is less than a group of two with a lesser number.
		{[][]int{{1, 0, 2}, {0, 1, 2}, {2, 0, 1}}, []int{0, 2, 1}, 2},
		{[][]int{{1, 0, 2, 3}, {0, 1, 2, 3}, {2, 3, 0, 1}, {0, 1, 2, 3}}, []int{0, 1, 3, 2}, 4},
		// Person 0 of the group gets what the outcome gives them, and is content with that.
		{[][]int{{1, 0, 2}, {0, 2, 1}, {0, 1, 2}}, []int{1, 2, 0}, 3},
		// The same with a person who likes something more that the group does not have.
		{[][]int{{2, 1, 0}, {0, 2, 1}, {0, 1, 2}}, []int{1, 2, 0}, 3},
	} {
		if group := objects(t, c.w, c.o); group != c.group {
			t.Error(c.w, c.o, group)
		}
	}
}

// P8.2: Objects of all outcomes, by the definition.
func TestObjectsOfMany(t *testing.T) {
	sizes := map[int]int{}
	outcomes(150, func(w [][]int, o []int) {
		want, size := 0, len(w)+1
		for group := 1; group < 1<<len(w); group++ {
			if people := members(group, len(w)); len(people) < size && objecting(w, group, o) {
				want, size = group, len(people)
			}
		}
		if group := objects(t, w, o); group != want {
			t.Fatal(w, o, group, want)
		}
		sizes[size]++
	})
	for size := 1; size <= 5; size++ {
		if sizes[size] < 10 {
			t.Error("too few of a kind", sizes)
		}
	}
}

// outcomes calls f with all outcomes of the wishes of some cases; with some of them for five people.
func outcomes(count int, f func(w [][]int, o []int)) {
	cases(count, func(w [][]int, r *rand.Rand) {
		for k, o := range orders(len(w)) {
			if len(w) < 5 || k%4 == r.Intn(4) {
				f(w, o)
			}
		}
	})
}

// P8.3: Better.
func TestBetterExamples(t *testing.T) {
	for _, c := range []struct {
		w      [][]int
		o, get []int
	}{
		{pair(), []int{0, 1, 2}, []int{1, 0, 2}},
		{pair(), []int{1, 0, 2}, nil},
		{pair(), []int{1, 2, 0}, nil},
		{pair(), []int{0, 2, 1}, []int{1, 2, 0}},
		{pair(), []int{2, 1, 0}, nil},
		{both(), []int{0, 1}, nil},
		{both(), []int{1, 0}, nil},
		{alone(), []int{0}, nil},
		{ring(), []int{1, 2, 3, 4, 0}, nil},
		{ring(), []int{0, 1, 2, 3, 4}, []int{1, 2, 3, 4, 0}},
		{ring(), []int{2, 3, 4, 1, 0}, []int{1, 2, 3, 4, 0}},
		{content(), []int{1, 0, 3, 2}, []int{0, 1, 2, 3}},
		{content(), []int{3, 2, 1, 0}, []int{0, 1, 2, 3}},
		{content(), []int{2, 1, 0, 3}, []int{0, 1, 2, 3}},
		// Both 0 1 2 3 and 0 1 3 2 are better, and so is 1 0 2 3.
		{[][]int{{1, 0, 2, 3}, {0, 1, 2, 3}, {2, 3, 0, 1}, {3, 2, 0, 1}}, []int{0, 1, 3, 2}, []int{0, 1, 2, 3}},
		{same(), []int{1, 0, 4, 3, 2}, nil},
	} {
		if o := better(t, c.w, c.o); !slices.Equal(o, c.get) {
			t.Error(c.w, c.o, o)
		}
	}
}

// P8.3: Better of all outcomes, by the definition.
func TestBetterOfMany(t *testing.T) {
	best, not := 0, 0
	outcomes(150, func(w [][]int, o []int) {
		var want []int
		for _, other := range orders(len(w)) {
			if want == nil && isBetter(w, other, o) {
				want = other
			}
		}
		if other := better(t, w, o); !slices.Equal(other, want) {
			t.Fatal(w, o, other, want)
		}
		if want == nil {
			best++
		} else {
			not++
		}
	})
	if best < 1000 || not < 1000 {
		t.Error("too few of a kind", best, not)
	}
}

// P8.2 and P8.3: ErrArg for what is no wishes, and for what is no outcome.
func TestOutcomesBad(t *testing.T) {
	check := func(w [][]int, o []int) {
		t.Helper()
		if group, e := swap.Objects(w, o); group != 0 || e != api.ErrArg {
			t.Error("Objects", len(w), len(o), group, e)
		}
		if l, e := swap.Better(w, o); len(l) != 0 || e != api.ErrArg {
			t.Error("Better", len(w), len(o), l, e)
		}
		if l, e := swap.Order(w, o); len(l) != 0 || e != api.ErrArg {
			t.Error("Order", len(w), len(o), l, e)
		}
	}
	for _, w := range badWishes() {
		n := len(w) % 100
		check(w, members(1<<n-1, n))
	}
	for _, w := range examples() {
		for _, o := range badOrders(len(w)) {
			check(w, o)
		}
	}
}
