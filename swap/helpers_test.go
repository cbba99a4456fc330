package swap_test

import (
	"math/rand"
	"slices"
	"testing"

	"corrody/api"
	"corrody/swap"
)

// pair is the chapter's first example: two people exchange, and one is left.
func pair() [][]int { return [][]int{{1, 0, 2}, {0, 1, 2}, {0, 1, 2}} }

// both is the chapter's third example.
func both() [][]int { return [][]int{{0, 1}, {0, 1}} }

// asked is the chapter's fourth example.
func asked() [][]int { return [][]int{{0, 1, 2}, {0, 1, 2}, {1, 0, 2}} }

// alone is a single person.
func alone() [][]int { return [][]int{{0}} }

// ring has everyone on one cycle, and nothing else that anybody likes more than their own thing.
func ring() [][]int {
	return [][]int{{1, 0, 2, 3, 4}, {2, 1, 0, 3, 4}, {3, 2, 0, 1, 4}, {4, 3, 0, 1, 2}, {0, 4, 1, 2, 3}}
}

// same has people who all like the same, the thing of the last one most.
func same() [][]int { return slices.Repeat([][]int{{4, 3, 2, 1, 0}}, 5) }

// content has people who like their own things most.
func content() [][]int { return [][]int{{0, 3, 2, 1}, {1, 3, 2, 0}, {2, 3, 1, 0}, {3, 2, 1, 0}} }

// twoCycles has two cycles in the first round, and a person who points at one of them.
func twoCycles() [][]int {
	return [][]int{{3, 1, 0, 2, 4}, {2, 3, 0, 1, 4}, {1, 0, 3, 2, 4}, {0, 2, 1, 3, 4}, {0, 2, 3, 1, 4}}
}

// inTurn has a cycle in each of three rounds: of one person, of two, and of the two who are left.
func inTurn() [][]int {
	return [][]int{{1, 3, 0, 2, 4}, {2, 4, 3, 1, 0}, {2, 0, 1, 3, 4}, {2, 1, 0, 3, 4}, {1, 3, 2, 4, 0}}
}

// crowd has people who ask in vain for a thing, and one of them likes next what is taken at the same time.
func crowd() [][]int { return [][]int{{0, 1, 2, 3}, {0, 1, 2, 3}, {1, 0, 2, 3}, {0, 2, 1, 3}} }

func examples() [][][]int {
	return [][][]int{pair(), both(), asked(), alone(), ring(), same(), content(), twoCycles(), inTurn(), crowd()}
}

// orders are all orders of n people, or outcomes of them, the first one first.
func orders(n int) [][]int {
	all := [][]int{nil}
	for range n {
		var longer [][]int
		for _, order := range all {
			for x := range n {
				if !slices.Contains(order, x) {
					longer = append(longer, append(slices.Clone(order), x))
				}
			}
		}
		all = longer
	}
	return all
}

// allWishes are all wishes of n people.
func allWishes(n int) [][][]int {
	all := [][][]int{nil}
	for range n {
		var longer [][][]int
		for _, w := range all {
			for _, order := range orders(n) {
				longer = append(longer, append(slices.Clone(w), order))
			}
		}
		all = longer
	}
	return all
}

// randomWishes are wishes of n people. Wishes that differ little are frequent, as many then want the same.
func randomWishes(r *rand.Rand, n int) [][]int {
	common, swaps := r.Perm(n), r.Intn(4)
	var w [][]int
	for range n {
		list := slices.Clone(common)
		if swaps == 3 {
			list = r.Perm(n)
		}
		for range swaps {
			a, b := r.Intn(n), r.Intn(n)
			list[a], list[b] = list[b], list[a]
		}
		w = append(w, list)
	}
	return w
}

// cases calls f with the examples, with all wishes of at most three people, and with count of four or five from a fixed sequence.
func cases(count int, f func(w [][]int, r *rand.Rand)) {
	r := rand.New(rand.NewSource(1))
	for _, w := range examples() {
		f(w, r)
	}
	for n := 1; n <= 3; n++ {
		for _, w := range allWishes(n) {
			f(w, r)
		}
	}
	for k := range count {
		f(randomWishes(r, 4+k%2), r)
	}
}

// rank is the place of a thing among a person's wishes, 0 being the best.
func rank(w [][]int, person, thing int) int {
	for at := range w[person] {
		if w[person][at] == thing {
			return at
		}
	}
	panic("no such thing")
}

// in reports whether a person is in a set.
func in(set, person int) bool { return set&(1<<person) != 0 }

// members are the people in a set of n, rising.
func members(set, n int) []int {
	var l []int
	for person := range n {
		if in(set, person) {
			l = append(l, person)
		}
	}
	return l
}

// topOf is the thing that a person likes best of some things.
func topOf(w [][]int, person int, things []int) int {
	return slices.MinFunc(things, func(a, b int) int { return rank(w, person, a) - rank(w, person, b) })
}

// traded is the outcome of the trading rule if people have some things, and in which round each one leaves, by the definition: those on cycles are those to whom somebody points from however far.
func traded(w [][]int, things []int) ([]int, []int) {
	o, rounds := make([]int, len(w)), make([]int, len(w))
	has := map[int]int{}
	for person, thing := range things {
		has[person] = thing
	}
	for round := 0; len(has) > 0; round++ {
		var left []int
		onCycles := map[int]bool{}
		owner := map[int]int{}
		for person, thing := range has {
			left = append(left, thing)
			onCycles[person] = true
			owner[thing] = person
		}
		for range w {
			pointedAt := map[int]bool{}
			for person := range onCycles {
				pointedAt[owner[topOf(w, person, left)]] = true
			}
			onCycles = pointedAt
		}
		for person := range onCycles {
			o[person], rounds[person] = topOf(w, person, left), round
			delete(has, person)
		}
	}
	return o, rounds
}

// chosen is the outcome of choosing in an order, by the definition.
func chosen(w [][]int, order []int) []int {
	o := make([]int, len(w))
	left := slices.Clone(order)
	for _, person := range order {
		o[person] = topOf(w, person, left)
		left = without(left, o[person])
	}
	return o
}

// without is a list without x.
func without(list []int, x int) []int {
	return slices.DeleteFunc(slices.Clone(list), func(y int) bool { return y == x })
}

// askedFor is the outcome of rule 2, by the definition.
func askedFor(w [][]int) []int {
	o := make([]int, len(w))
	people, things := members(1<<len(w)-1, len(w)), members(1<<len(w)-1, len(w))
	for len(people) > 0 {
		by := map[int][]int{}
		for _, person := range people {
			thing := topOf(w, person, things)
			by[thing] = append(by[thing], person)
		}
		for thing, askers := range by {
			first := slices.Min(askers)
			o[first] = thing
			people, things = without(people, first), without(things, thing)
		}
	}
	return o
}

// byRule is the outcome of a rule, by the definitions.
func byRule(w [][]int, rule int) []int {
	own := members(1<<len(w)-1, len(w))
	switch rule {
	case 0:
		o, _ := traded(w, own)
		return o
	case 1:
		return chosen(w, own)
	}
	return askedFor(w)
}

// noWorse reports whether people like none of some things less than others that they would get, and whether they like one more.
func noWorse(w [][]int, people, things, others []int) (bool, bool) {
	more := false
	for k, person := range people {
		if rank(w, person, things[k]) > rank(w, person, others[k]) {
			return false, false
		}
		more = more || rank(w, person, things[k]) < rank(w, person, others[k])
	}
	return true, more
}

// objecting reports whether a group objects to an outcome, by the definition.
func objecting(w [][]int, group int, o []int) bool {
	people := members(group, len(w))
	var get []int
	for _, person := range people {
		get = append(get, o[person])
	}
	for _, order := range orders(len(people)) {
		var things []int
		for _, k := range order {
			things = append(things, people[k])
		}
		if _, more := noWorse(w, people, things, get); more {
			return true
		}
	}
	return false
}

// isBetter reports whether an outcome is better than another one, by the definition.
func isBetter(w [][]int, o, other []int) bool {
	_, more := noWorse(w, members(1<<len(w)-1, len(w)), o, other)
	return more
}

// renamed is an outcome, or anything else that everyone has, after person k is called names[k] and so are things.
func renamed(o, names []int) []int {
	other := make([]int, len(o))
	for person, thing := range o {
		other[names[person]] = names[thing]
	}
	return other
}

// renamedWishes are wishes after person k is called names[k], and thing k things[k].
func renamedWishes(w [][]int, names, things []int) [][]int {
	other := make([][]int, len(w))
	for person, list := range w {
		for _, thing := range list {
			other[names[person]] = append(other[names[person]], things[thing])
		}
	}
	return other
}

// sameRows reports whether two tables are the same.
func sameRows(a, b [][]int) bool {
	return slices.EqualFunc(a, b, func(x, y []int) bool { return slices.Equal(x, y) })
}

// ok fails if there is an error, and else returns what a function returned before it.
func ok[T any](t *testing.T) func(x T, e api.Errno) T {
	t.Helper()
	return func(x T, e api.Errno) T {
		t.Helper()
		if e != api.OK {
			t.Fatal(x, e)
		}
		return x
	}
}

func trade(t *testing.T, w [][]int) []int {
	t.Helper()
	return ok[[]int](t)(swap.Trade(w))
}

func rounds(t *testing.T, w [][]int) []int {
	t.Helper()
	return ok[[]int](t)(swap.Rounds(w))
}

func choose(t *testing.T, w [][]int, order []int) []int {
	t.Helper()
	return ok[[]int](t)(swap.Choose(w, order))
}

func chances(t *testing.T, w [][]int) [][]int {
	t.Helper()
	return ok[[][]int](t)(swap.Chances(w))
}

func given(t *testing.T, w [][]int) [][]int {
	t.Helper()
	return ok[[][]int](t)(swap.Given(w))
}

// objects fails if there is another error than ErrNone, and else returns Objects, or 0.
func objects(t *testing.T, w [][]int, o []int) int {
	t.Helper()
	group, e := swap.Objects(w, o)
	if e != api.OK && e != api.ErrNone || (e == api.OK) != (group != 0) {
		t.Fatal(w, o, group, e)
	}
	return group
}

// found fails if there is another error than ErrNone, and else returns what a function returned before it, or nil.
func found(t *testing.T) func(l []int, e api.Errno) []int {
	t.Helper()
	return func(l []int, e api.Errno) []int {
		t.Helper()
		if e != api.OK && e != api.ErrNone || (e == api.OK) != (len(l) != 0) {
			t.Fatal(l, e)
		}
		return l
	}
}

func better(t *testing.T, w [][]int, o []int) []int {
	t.Helper()
	return found(t)(swap.Better(w, o))
}

func order(t *testing.T, w [][]int, o []int) []int {
	t.Helper()
	return found(t)(swap.Order(w, o))
}

func lie(t *testing.T, w [][]int, i, rule int) []int {
	t.Helper()
	return found(t)(swap.Lie(w, i, rule))
}

// badOrders are no orders of n people, and no outcomes.
func badOrders(n int) [][]int {
	all := [][]int{nil, make([]int, 100000)}
	if n > 1 {
		all = append(all, make([]int, n))
	}
	for length := range 8 {
		if length != n {
			all = append(all, members(1<<length-1, length))
		}
	}
	for at := range n {
		for _, bad := range []int{-1, n, n + 1, 64, 1 << 32, 1<<63 - 1, -1 << 63} {
			l := members(1<<n-1, n)
			l[at] = bad
			all = append(all, l)
		}
		if at > 0 {
			l := members(1<<n-1, n)
			l[at] = l[at-1]
			all = append(all, l)
		}
	}
	return all
}

// badWishes are no wishes.
func badWishes() [][][]int {
	all := [][][]int{nil, {}, {nil}, {nil, nil}, make([][]int, 100000), slices.Repeat([][]int{{0, 1, 2, 3, 4, 5}}, 6), slices.Repeat([][]int{{0, 1, 2, 3, 4}}, 6), slices.Repeat([][]int{{0, 1, 2, 3, 4}}, 4)}
	for n := 1; n <= 5; n++ {
		for person := range n {
			for _, bad := range badOrders(n) {
				w := slices.Repeat([][]int{members(1<<n-1, n)}, n)
				w[person] = bad
				all = append(all, w)
			}
		}
	}
	return all
}
