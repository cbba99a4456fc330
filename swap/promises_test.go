package swap_test

import (
	"math/rand"
	"reflect"
	"slices"
	"testing"

	"corrody/api"
	"corrody/swap"
	"corrody/turns"
)

// P8.7, and P1 of the whole: no group objects to Trade's outcome, and a group objects to every other one.
func TestCore(t *testing.T) {
	cases(60, func(w [][]int, r *rand.Rand) {
		traded := trade(t, w)
		for _, o := range orders(len(w)) {
			if group := objects(t, w, o); (group == 0) != slices.Equal(o, traded) {
				t.Fatal(w, o, traded, group)
			}
		}
	})
}

// P8.8: Better is ErrNone if and only if Order is OK; Better of Trade is ErrNone.
func TestBestOutcomes(t *testing.T) {
	best, not := 0, 0
	cases(100, func(w [][]int, r *rand.Rand) {
		for _, o := range orders(len(w)) {
			if (better(t, w, o) == nil) != (order(t, w, o) != nil) {
				t.Fatal(w, o)
			}
			if better(t, w, o) == nil {
				best++
			} else {
				not++
			}
		}
		if o := better(t, w, trade(t, w)); o != nil {
			t.Fatal(w, o)
		}
	})
	if best < 1000 || not < 1000 {
		t.Error("too few of a kind", best, not)
	}
}

// P8.8: nobody gets in Trade what they like less than their own thing.
func TestNobodyLoses(t *testing.T) {
	cases(5000, func(w [][]int, r *rand.Rand) {
		for person, thing := range trade(t, w) {
			if rank(w, person, thing) > rank(w, person, person) {
				t.Fatal(w, person, thing)
			}
		}
	})
}

// P8.10: Given is Chances, whose rows and columns sum to the number of orders.
func TestGivenIsChances(t *testing.T) {
	cases(400, func(w [][]int, r *rand.Rand) {
		counts := chances(t, w)
		if l := given(t, w); !sameRows(l, counts) {
			t.Fatal(w, l, counts)
		}
		for a := range w {
			row, column := 0, 0
			for b := range w {
				row += counts[a][b]
				column += counts[b][a]
			}
			if all := len(orders(len(w))); row != all || column != all || len(counts[a]) != len(w) {
				t.Fatal(w, counts)
			}
		}
	})
}

// P8.11: nobody who leaves in a round likes a thing more of someone who leaves in a later round, or in the same round but on another cycle.
func TestRoundsKeepNothingBetter(t *testing.T) {
	compared := 0
	cases(5000, func(w [][]int, r *rand.Rand) {
		o, leave := trade(t, w), rounds(t, w)
		for person := range w {
			for other := range w {
				if leave[other] < leave[person] || onCycle(o, person, other) {
					continue
				}
				compared++
				if rank(w, person, other) < rank(w, person, o[person]) {
					t.Fatal(w, o, leave, person, other)
				}
			}
			// Those on a cycle leave together, and each round has somebody.
			if leave[o[person]] != leave[person] || leave[person] > 0 && !slices.Contains(leave, leave[person]-1) {
				t.Fatal(w, o, leave)
			}
		}
	})
	if compared < 10000 {
		t.Error("too few of a kind", compared)
	}
}

// onCycle reports whether two people get their things on the same cycle.
func onCycle(o []int, a, b int) bool {
	for range o {
		if a == b {
			return true
		}
		a = o[a]
	}
	return false
}

// P8.12: renaming people together with their things renames Trade.
func TestRenaming(t *testing.T) {
	cases(100, func(w [][]int, r *rand.Rand) {
		o := trade(t, w)
		for _, names := range orders(len(w)) {
			if other := trade(t, renamedWishes(w, names, names)); !slices.Equal(other, renamed(o, names)) {
				t.Fatal(w, names, o, other)
			}
		}
	})
}

// P2 of the whole: hands and shifts of one place each are people of an exchange, each of them having themselves. A matching is stable if and only if no group of one or two objects to it.
func TestMatchingsAreExchanges(t *testing.T) {
	r := rand.New(rand.NewSource(1))
	stable, not := 0, 0
	for range 300 {
		hands := 1 + r.Intn(3)
		p := oneEach(r, hands, 1+r.Intn(5-hands))
		w := couples(p)
		all := ok[[][]int](t)(turns.Stable(p))
		for _, o := range orders(len(w)) {
			m, is := matching(p, o)
			if !is {
				continue
			}
			group := objects(t, w, o)
			few := group != 0 && len(members(group, len(w))) <= 2
			isStable := slices.ContainsFunc(all, func(other []int) bool { return slices.Equal(m, other) })
			if few == isStable {
				t.Fatal(p, m, group)
			}
			if isStable {
				stable++
			} else {
				not++
			}
		}
	}
	if stable < 300 || not < 300 {
		t.Error("too few of a kind", stable, not)
	}
}

// oneEach is a plan of shifts with one place each, in which any may be on a list or not.
func oneEach(r *rand.Rand, hands, shifts int) turns.Plan {
	p := turns.Plan{Places: slices.Repeat([]int{1}, shifts)}
	for range hands {
		p.Hands = append(p.Hands, r.Perm(shifts)[:r.Intn(shifts+1)])
	}
	for range shifts {
		p.Shifts = append(p.Shifts, r.Perm(hands)[:r.Intn(hands+1)])
	}
	return p
}

// couples are the wishes of the hands of a plan, and after them of its shifts: whom they list, then themselves, then all others.
func couples(p turns.Plan) [][]int {
	hands, n := len(p.Hands), len(p.Hands)+len(p.Shifts)
	var w [][]int
	for person := range n {
		var list []int
		if person < hands {
			for _, s := range p.Hands[person] {
				list = append(list, hands+s)
			}
		} else {
			list = slices.Clone(p.Shifts[person-hands])
		}
		list = append(list, person)
		for other := range n {
			if !slices.Contains(list, other) {
				list = append(list, other)
			}
		}
		w = append(w, list)
	}
	return w
}

// matching is the matching that an outcome of couples is, if it is one.
func matching(p turns.Plan, o []int) ([]int, bool) {
	hands := len(p.Hands)
	m := slices.Repeat([]int{-1}, hands)
	for person, other := range o {
		if o[other] != person || person != other && (person < hands) == (other < hands) {
			return nil, false
		}
		if person < hands && other != person {
			m[person] = other - hands
		}
	}
	_, e := turns.Blocks(p, m)
	return m, e == api.OK
}

// P2 of the whole: if all shifts, of one place each, list the hands in the same order, choosing in it gives the only stable matching.
func TestChoiceIsMatching(t *testing.T) {
	cases(300, func(w [][]int, r *rand.Rand) {
		if len(w) > api.MaxShifts {
			return
		}
		l := r.Perm(len(w))
		p := turns.Plan{Hands: w, Shifts: slices.Repeat([][]int{l}, len(w)), Places: slices.Repeat([]int{1}, len(w))}
		all := ok[[][]int](t)(turns.Stable(p))
		if o := choose(t, w, l); len(all) != 1 || !slices.Equal(all[0], o) {
			t.Fatal(w, l, o, all)
		}
	})
}

// Rules 2 and 4: the same calls give the same results, change no argument, and share no memory with anything.
func TestMemory(t *testing.T) {
	w, o, l := asked(), []int{2, 1, 0}, []int{1, 2, 0}
	spoilt := func(list []int) []int {
		copied := slices.Clone(list)
		for k := range list {
			list[k] = 9
		}
		return copied
	}
	rows := func(table [][]int) []int {
		var all []int
		for _, row := range table {
			all = append(all, spoilt(row[:cap(row)])...)
		}
		return all
	}
	calls := func() [][]int {
		traded, _ := swap.Trade(w)
		leave, _ := swap.Rounds(w)
		group, _ := swap.Objects(w, o)
		improved, _ := swap.Better(w, []int{1, 0, 2})
		order, _ := swap.Order(w, o)
		got, _ := swap.Choose(w, l)
		counts, _ := swap.Chances(w)
		end, _ := swap.Given(w)
		lie, _ := swap.Lie(w, 1, 2)
		return [][]int{spoilt(traded), spoilt(leave), {group}, spoilt(improved), spoilt(order), spoilt(got), rows(counts), rows(end), spoilt(lie)}
	}
	first, second := calls(), calls()
	if !reflect.DeepEqual(first, second) {
		t.Error(first, second)
	}
	if !reflect.DeepEqual(w, asked()) || !slices.Equal(o, []int{2, 1, 0}) || !slices.Equal(l, []int{1, 2, 0}) {
		t.Error("an argument is changed", w, o, l)
	}
}
