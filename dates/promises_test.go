package dates_test

import (
	"cmp"
	"math/rand"
	"reflect"
	"slices"
	"testing"

	"corrody/api"
	"corrody/dates"
)

// byDue is the order of jobs by Due, those of a set before the others.
func byDue(l []dates.Job, set int) []int {
	var order []int
	for k := range l {
		order = append(order, k)
	}
	slices.SortFunc(order, func(a, b int) int {
		return cmp.Or(cmp.Compare(set>>b&1, set>>a&1), cmp.Compare(l[a].Due, l[b].Due), cmp.Compare(a, b))
	})
	return order
}

// P6.9: the jobs of Most and Weigh are on time if they are done first, in the order of Due.
func TestOnTimeByDue(t *testing.T) {
	some := 0
	cases(2000, 8, 20, func(l []dates.Job, r *rand.Rand) {
		most, e := dates.Most(l)
		heavy, sum, f := dates.Weigh(l)
		if e != api.OK || f != api.OK {
			t.Fatal(l, e, f)
		}
		for _, set := range []int{most, heavy} {
			ends, e := dates.Ends(l, byDue(l, set))
			if e != api.OK || set < 0 || set >= 1<<len(l) {
				t.Fatal(l, set, e)
			}
			for k, end := range ends {
				if set&(1<<k) != 0 && end > l[k].Due {
					t.Fatal(l, set, ends)
				}
			}
		}
		weight := 0
		for k, job := range l {
			if heavy&(1<<k) != 0 {
				weight += job.Weight
			}
		}
		if sum != weight {
			t.Fatal(l, heavy, sum)
		}
		if most != 0 && most != 1<<len(l)-1 && heavy != 0 {
			some++
		}
	})
	if some < 200 {
		t.Error("too few sets", some)
	}
}

// P6.10: Overload is OK if and only if no whole plan has all jobs end at their Due or before. What it returns is overloaded.
func TestOneOrTheOther(t *testing.T) {
	can, cannot, tight := 0, 0, 0
	cases(1500, 8, 20, func(l []dates.Job, r *rand.Rand) {
		s, e := dates.Overload(l)
		if canEnd(l, 0) {
			can++
			if e != api.ErrNone || s != [2]int{} {
				t.Fatal(l, s, e)
			}
			if delay(t, l) == 0 {
				tight++
			}
			return
		}
		cannot++
		if e != api.OK || !overloaded(l, s[0], s[1]) {
			t.Fatal(l, s, e)
		}
		if delay(t, l) == 1 {
			tight++
		}
	})
	if can < 300 || cannot < 300 || tight < 50 {
		t.Error("too few of a kind", can, cannot, tight)
	}
}

// P6.6 and P6.11: Delay is the greatest delay of Plan, and the least for which there is a whole plan.
func TestDelayOfMany(t *testing.T) {
	below, above := 0, 0
	cases(800, 8, 20, func(l []dates.Job, r *rand.Rand) {
		x := delay(t, l)
		if x != latest(l, endsOf(t, l, plan(t, l))) || !canEnd(l, x) || canEnd(l, x-1) {
			t.Fatal(l, x)
		}
		if x < 0 {
			below++
		}
		if x > 0 {
			above++
		}
	})
	if below < 150 || above < 150 {
		t.Error("too few of a kind", below, above)
	}
}

// P6.11: Check accepts Plan and Short, and no whole plan has a lesser greatest delay or sum of ends: all whole plans are tried.
func TestTheBest(t *testing.T) {
	apart := 0
	cases(1000, 5, 4, func(l []dates.Job, r *rand.Rand) {
		best, least := bestPlans(l)
		p := plan(t, l)
		q, sum := short(t, l)
		late, early := endsOf(t, l, p), endsOf(t, l, q)
		if delay(t, l) != best || latest(l, late) != best {
			t.Fatal(l, p, best)
		}
		if sum != least || sumOf(early) != least {
			t.Fatal(l, q, sum, least)
		}
		if latest(l, early) > best && sumOf(late) > least {
			apart++
		}
	})
	if apart < 50 {
		t.Error("too few that differ", apart)
	}
}

// P6.11: the same for as many jobs as there can be, against whole plans of any kind.
func TestTheBestOfSome(t *testing.T) {
	equal := 0
	cases(1500, 8, 20, func(l []dates.Job, r *rand.Rand) {
		x := delay(t, l)
		_, sum := short(t, l)
		for range 3 {
			p := randomPlan(l, r)
			ends := endsOf(t, l, p)
			if latest(l, ends) < x || sumOf(ends) < sum {
				t.Fatal(l, p, ends, x, sum)
			}
			if latest(l, ends) == x || sumOf(ends) == sum {
				equal++
			}
		}
	})
	if equal < 300 {
		t.Error("too few that are as good", equal)
	}
}

// P6.12: without befores the greatest delay of Least is that of the order by Due.
func TestLeastByDue(t *testing.T) {
	cases(1500, 8, 20, func(l []dates.Job, r *rand.Rand) {
		ends, e := dates.Ends(l, byDue(l, 0))
		order, x, f := dates.Least(l, nil)
		if e != api.OK || f != api.OK || x != latest(l, ends) || x != latest(l, endsIn(l, order)) {
			t.Fatal(l, ends, order, x, e, f)
		}
	})
}

// P6.12: a before more never lessens the greatest delay of Least, nor does it take away a loop.
func TestMoreBefores(t *testing.T) {
	more, loops := 0, 0
	cases(800, 8, 20, func(l []dates.Job, r *rand.Rand) {
		last, looped := -1000, false
		before := someBefores(l, r)
		for size := range len(before) + 1 {
			order, x, e := dates.Least(l, before[:size])
			if e == api.ErrLoop {
				loops++
				looped = true
				continue
			}
			if e != api.OK || looped || x < last || !keeps(order, before[:size]) || x != latest(l, endsIn(l, order)) {
				t.Fatal(l, before[:size], order, x, e, last)
			}
			if x > last && size > 0 {
				more++
			}
			last = x
		}
	})
	if more < 300 || loops < 50 {
		t.Error("too few of a kind", more, loops)
	}
}

// P6.13: adding a number to all Releases and Dues moves Plan by it, and does not change Delay.
func TestLater(t *testing.T) {
	earlier, later := 0, 0
	cases(1500, 8, 20, func(l []dates.Job, r *rand.Rand) {
		least, most := -200, 200
		for _, job := range l {
			least = max(least, -job.Release, -job.Due)
			most = min(most, 100-job.Release, 200-job.Due)
		}
		for _, by := range []int{least, most, least + r.Intn(most-least+1)} {
			moved := slices.Clone(l)
			for k := range moved {
				moved[k].Release += by
				moved[k].Due += by
			}
			p := plan(t, l)
			move(p, by)
			if q := plan(t, moved); !slices.Equal(p, q) || delay(t, moved) != delay(t, l) {
				t.Fatal(l, by, p, q)
			}
			if by < 0 {
				earlier++
			}
			if by > 0 {
				later++
			}
		}
	})
	if earlier < 500 || later < 500 {
		t.Error("too few of a kind", earlier, later)
	}
}

// Rules 2 and 4: the same calls give the same results, change no argument, and share no memory with anything.
func TestMemory(t *testing.T) {
	l, order, before := three(), []int{2, 1, 0}, [][2]int{{2, 0}}
	p := plan(t, l)
	numbers := func(p []dates.Piece) []int {
		var l []int
		for k, piece := range p {
			l = append(l, piece.Job, piece.From, piece.To)
			p[k] = dates.Piece{}
		}
		return l
	}
	calls := []func() []int{
		func() []int {
			ends, _ := dates.Ends(l, order)
			return ends
		},
		func() []int {
			least, _, _ := dates.Least(l, before)
			return least
		},
		func() []int {
			ends, _, _ := dates.Check(l, p)
			return ends
		},
		func() []int { return numbers(plan(t, l)) },
		func() []int {
			q, _ := short(t, l)
			return numbers(q)
		},
	}
	for k, call := range calls {
		first := call()
		kept := slices.Clone(first)
		for at := range first {
			first[at] = 99
		}
		_ = append(first[:len(first):cap(first)], 99)
		if again := call(); !slices.Equal(again, kept) || len(kept) == 0 {
			t.Error(k, kept, again)
		}
	}
	for range 2 {
		most, _ := dates.Most(l)
		heavy, sum, _ := dates.Weigh(l)
		s, _ := dates.Overload(l)
		if most != 5 || heavy != 6 || sum != 10 || s != [2]int{0, 4} || delay(t, l) != 2 {
			t.Error(most, heavy, sum, s)
		}
	}
	if !slices.Equal(l, three()) || !slices.Equal(order, []int{2, 1, 0}) || !reflect.DeepEqual(before, [][2]int{{2, 0}}) || !slices.Equal(p, plan(t, l)) {
		t.Error(l, order, before, p)
	}
}
