package turns_test

import (
	"math/rand"
	"slices"
	"testing"

	"corrody/api"
	"corrody/turns"
)

// P2.6: Lie.
func TestLieExamples(t *testing.T) {
	// Hand 0 does not list shift 0, so that the lie may begin with it, as it changes nothing.
	useless := turns.Plan{Hands: [][]int{{}, {0, 1}, {1, 0}}, Shifts: [][]int{{2, 1, 0}, {1, 2}}, Places: []int{1, 1}}
	for _, c := range []struct {
		p    turns.Plan
		s    int
		want []int
	}{
		{example(), 0, []int{1}},
		{example(), 1, []int{0}},
		{strangers(), 0, nil},
		// Refusing hands 0 and 2 brings hand 1, after each of them has asked elsewhere.
		{latin(), 0, []int{1}},
		{useless, 0, []int{0, 2}},
		{twice(), 3, []int{2}},
		// A shift with two places keeps hand 0 and gets hand 3 in the place of hand 1; with 0 2 it would have a free place.
		{roomy(), 0, []int{0, 2, 3}},
		// A shift with a free place before and after.
		{turns.Plan{Hands: [][]int{{0, 1}, {1, 0}}, Shifts: [][]int{{1, 0}, {0, 1}}, Places: []int{2, 1}}, 0, []int{1}},
		// A shift that has whom it likes best, and one that nobody else asks.
		{turns.Plan{Hands: [][]int{{0, 1}, {1, 0}}, Shifts: [][]int{{0, 1}, {1, 0}}, Places: []int{1, 1}}, 0, nil},
		{turns.Plan{Hands: [][]int{{0}, {0}}, Shifts: [][]int{{1, 0}}, Places: []int{1}}, 0, nil},
	} {
		l, e := turns.Lie(c.p, c.s)
		if c.want == nil {
			if l != nil || e != api.ErrNone {
				t.Error(c.p, c.s, l, e)
			}
		} else if !slices.Equal(l, c.want) || e != api.OK {
			t.Error(c.p, c.s, l, e)
		}
	}
}

// lied returns the first list by which s gains, by the definition, or nil.
func lied(p turns.Plan, s int) []int {
	own := p.Shifts[s]
	before := bestStable(p)
	had := held(own, before, s, p.Places[s])
	q := p
	q.Shifts = slices.Clone(p.Shifts)
	for _, list := range lists(len(p.Hands)) {
		if slices.ContainsFunc(list, func(h int) bool { return !slices.Contains(own, h) }) {
			continue
		}
		q.Shifts[s] = list
		has := held(own, bestStable(q), s, p.Places[s])
		worse := false
		for at := range has {
			worse = worse || has[at] < had[at]
		}
		if !worse && !slices.Equal(has, had) {
			return list
		}
	}
	return nil
}

// bestStable returns the best stable matching for the hands, by the definition.
func bestStable(p turns.Plan) []int {
	all := stables(p)
	for _, a := range all {
		if !slices.ContainsFunc(all, func(b []int) bool { return !above(p, a, b) }) {
			return a
		}
	}
	return nil
}

// P2.6: Lie, by its definition.
func TestLieOfMany(t *testing.T) {
	r := rand.New(rand.NewSource(3))
	lies, truths, crowds := 0, 0, 0
	for lies < 40 || truths < 40 || crowds < 5 {
		p := randomPlan(r)
		if len(p.Hands) > 4 {
			continue
		}
		s := r.Intn(len(p.Shifts))
		want := lied(p, s)
		l, e := turns.Lie(p, s)
		if want == nil {
			truths++
			if l != nil || e != api.ErrNone {
				t.Fatal(p, s, l, e)
			}
			continue
		}
		lies++
		if p.Places[s] > 1 {
			crowds++
		}
		if !slices.Equal(l, want) || e != api.OK {
			t.Fatal(p, s, l, e, want)
		}
	}
}

// P2.6: six hands, against First itself.
func TestLieOfSix(t *testing.T) {
	r := rand.New(rand.NewSource(4))
	six := lists(6)
	for range 25 {
		p := turns.Plan{Hands: make([][]int, 6), Shifts: make([][]int, 4), Places: []int{2, 2, 1, 1}}
		for h := range p.Hands {
			p.Hands[h] = r.Perm(4)
		}
		for s := range p.Shifts {
			p.Shifts[s] = r.Perm(6)
		}
		had := held(p.Shifts[0], got(t, p, turns.First), 0, 2)
		var want []int
		for _, list := range six {
			q := p
			q.Shifts = append([][]int{list}, p.Shifts[1:]...)
			has := held(p.Shifts[0], got(t, q, turns.First), 0, 2)
			if has[0] >= had[0] && has[1] >= had[1] && has[0]+has[1] > had[0]+had[1] {
				want = list
				break
			}
		}
		l, e := turns.Lie(p, 0)
		if !slices.Equal(l, want) || (e == api.OK) != (want != nil) {
			t.Fatal(p, l, e, want)
		}
	}
}

// P2.6: invalid plans and shifts.
func TestLieErrors(t *testing.T) {
	for _, p := range badPlans() {
		for _, s := range []int{0, 1, -1} {
			if l, e := turns.Lie(p, s); l != nil || e != api.ErrArg {
				t.Error(len(p.Hands), s, l, e)
			}
		}
	}
	for _, s := range []int{-1, 2, -1 << 63, 1<<63 - 1} {
		if l, e := turns.Lie(example(), s); l != nil || e != api.ErrArg {
			t.Error(s, l, e)
		}
	}
}
