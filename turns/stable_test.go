package turns_test

import (
	"math/rand"
	"slices"
	"testing"

	"corrody/api"
	"corrody/turns"
)

// P2.1: Blocks.
func TestBlocksExamples(t *testing.T) {
	for _, c := range []struct {
		p    turns.Plan
		m    []int
		want [][2]int
	}{
		{example(), []int{0, -1}, [][2]int{{1, 0}, {1, 1}}},
		{example(), []int{0, 1}, nil},
		{example(), []int{1, 0}, nil},
		{example(), []int{-1, -1}, [][2]int{{0, 0}, {0, 1}, {1, 0}, {1, 1}}},
		{example(), []int{-1, 0}, [][2]int{{0, 1}, {1, 1}}},
		{strangers(), []int{-1}, nil},
		// Shift 0 is full with the two that it likes best; shift 1 has free places for those and for hands without a shift.
		{roomy(), []int{-1, -1, 0, 0, -1}, [][2]int{{0, 1}, {1, 1}, {2, 1}, {3, 1}}},
		// Both shifts are full, each with a hand that it likes less than one of the other shift.
		{roomy(), []int{0, 1, 0, 1, -1}, [][2]int{{1, 0}, {2, 1}}},
		// Shift 0 has one free place, though hand 0 is who it likes least.
		{roomy(), []int{1, 0, 1, -1, -1}, [][2]int{{0, 0}, {3, 0}}},
		// What is not on both lists blocks nothing, though the hand has nothing and the place is free.
		{turns.Plan{Hands: [][]int{{0}, {}}, Shifts: [][]int{{1}}, Places: []int{2}}, []int{-1, -1}, nil},
	} {
		if l, e := turns.Blocks(c.p, c.m); !slices.Equal(l, c.want) || e != api.OK {
			t.Error(c.p, c.m, l, e)
		}
	}
}

// P2.1: Blocks, by its definition.
func TestBlocksOfMany(t *testing.T) {
	cases(300, func(p turns.Plan, r *rand.Rand) {
		all := matchings(p)
		for range min(20, len(all)) {
			m := all[r.Intn(len(all))]
			if l, e := turns.Blocks(p, m); !slices.Equal(l, blocking(p, m)) || e != api.OK {
				t.Fatal(p, m, l, e)
			}
		}
	})
}

// P2.1: Stable.
func TestStableExamples(t *testing.T) {
	for _, c := range []struct {
		p    turns.Plan
		want [][]int
	}{
		{example(), [][]int{{0, 1}, {1, 0}}},
		{strangers(), [][]int{{-1}}},
		{latin(), [][]int{{0, 1, 2}, {1, 2, 0}, {2, 0, 1}}},
		{twice(), [][]int{{0, 1, 2, 3}, {0, 1, 3, 2}, {1, 0, 2, 3}, {1, 0, 3, 2}}},
		{roomy(), [][]int{{0, 0, 1, 1, -1}, {1, 0, 1, 0, -1}, {1, 1, 0, 0, -1}}},
		// Only one of the two lists the other one.
		{turns.Plan{Hands: [][]int{{0}}, Shifts: [][]int{{}}, Places: []int{1}}, [][]int{{-1}}},
		{turns.Plan{Hands: [][]int{{}}, Shifts: [][]int{{0}}, Places: []int{1}}, [][]int{{-1}}},
		{turns.Plan{Hands: [][]int{{0}}, Shifts: [][]int{{0}}, Places: []int{3}}, [][]int{{0}}},
		{turns.Plan{Hands: [][]int{{0}, {0}, {0}}, Shifts: [][]int{{2, 0, 1}}, Places: []int{2}}, [][]int{{0, -1, 0}}},
	} {
		if l, e := turns.Stable(c.p); !sameMatchings(l, c.want) || e != api.OK {
			t.Error(c.p, l, e)
		}
	}
}

// P2.1: Stable, by its definition.
func TestStableOfMany(t *testing.T) {
	most := 0
	cases(500, func(p turns.Plan, r *rand.Rand) {
		l := allOf(t, p)
		most = max(most, len(l))
		if !sameMatchings(l, stables(p)) {
			t.Fatal(p, l)
		}
	})
	if most < 4 {
		t.Error("too few stable matchings", most)
	}
}

// P2.1: the greatest plan there is.
func TestGreatestPlan(t *testing.T) {
	r := rand.New(rand.NewSource(2))
	p := turns.Plan{Hands: make([][]int, 6), Shifts: make([][]int, 4), Places: []int{3, 3, 3, 3}}
	for h := range p.Hands {
		p.Hands[h] = r.Perm(4)
	}
	for s := range p.Shifts {
		p.Shifts[s] = r.Perm(6)
	}
	if l := allOf(t, p); !sameMatchings(l, stables(p)) {
		t.Error(p, l)
	}
}

// P2.1: invalid plans and matchings.
func TestStableErrors(t *testing.T) {
	for _, p := range badPlans() {
		if l, e := turns.Stable(p); l != nil || e != api.ErrArg {
			t.Error(len(p.Hands), l, e)
		}
		for _, m := range [][]int{nil, {0, 1}, {-1, -1}, slices.Repeat([]int{-1}, len(p.Hands))} {
			if l, e := turns.Blocks(p, m); l != nil || e != api.ErrArg {
				t.Error(len(p.Hands), m, l, e)
			}
		}
	}
	p, bad := badMatchings()
	for _, m := range bad {
		if l, e := turns.Blocks(p, m); l != nil || e != api.ErrArg {
			t.Error(len(m), l, e)
		}
	}
	// A matching has no more hands than places.
	for places := 1; places <= 3; places++ {
		p := turns.Plan{Hands: [][]int{{0}, {0}, {0}, {0}}, Shifts: [][]int{{0, 1, 2, 3}}, Places: []int{places}}
		for hands := range 5 {
			m := append(slices.Repeat([]int{-1}, 4-hands), make([]int, hands)...)
			if _, e := turns.Blocks(p, m); (e == api.OK) != (hands <= places) {
				t.Error(places, hands, e)
			}
		}
	}
}
