package turns_test

import (
	"math/rand"
	"reflect"
	"slices"
	"testing"

	"corrody/api"
	"corrody/turns"
)

// P2.7: there is a stable matching; First and Last are in Stable.
func TestThereIsAStableOne(t *testing.T) {
	cases(500, func(p turns.Plan, r *rand.Rand) {
		all := allOf(t, p)
		for _, m := range [][]int{got(t, p, turns.First), got(t, p, turns.Last)} {
			if !slices.ContainsFunc(all, func(other []int) bool { return slices.Equal(other, m) }) {
				t.Fatal(p, m, all)
			}
		}
		for _, m := range all {
			if l, e := turns.Blocks(p, m); len(l) > 0 || e != api.OK {
				t.Fatal(p, m, l, e)
			}
		}
	})
}

// P2.8: Join and Meet of stable matchings are stable, so is Middle; of 1 it is First, of the greatest k Last.
func TestLattice(t *testing.T) {
	cases(200, func(p turns.Plan, r *rand.Rand) {
		all := allOf(t, p)
		isStable := func(m []int) bool {
			return slices.ContainsFunc(all, func(other []int) bool { return slices.Equal(other, m) })
		}
		for k, a := range all {
			if !isStable(got(t, p, middle(k+1))) {
				t.Fatal(p, k+1)
			}
			for _, b := range all {
				if !isStable(got(t, p, join(a, b))) || !isStable(got(t, p, meet(a, b))) {
					t.Fatal(p, a, b)
				}
			}
		}
		if !slices.Equal(got(t, p, middle(1)), got(t, p, turns.First)) || !slices.Equal(got(t, p, middle(len(all))), got(t, p, turns.Last)) {
			t.Fatal(p)
		}
	})
}

// P2.9: the same hands have shifts in all stable matchings, every shift has equally many, and one with a free place has the same.
func TestTheSamePlaces(t *testing.T) {
	cases(500, func(p turns.Plan, r *rand.Rand) {
		all := allOf(t, p)
		for _, m := range all {
			for h := range m {
				if (m[h] < 0) != (all[0][h] < 0) {
					t.Fatal(p, m, all[0])
				}
			}
			for s, list := range p.Shifts {
				now, before := held(list, m, s, p.Places[s]), held(list, all[0], s, p.Places[s])
				if free := slices.Index(now, 0); free != slices.Index(before, 0) || free >= 0 && !slices.Equal(now, before) {
					t.Fatal(p, m, all[0])
				}
			}
		}
	})
}

// P2.10: what is at least as good for the hands is liked no more by any shift.
func TestTwoSides(t *testing.T) {
	cases(500, func(p turns.Plan, r *rand.Rand) {
		all := allOf(t, p)
		for _, a := range all {
			for _, b := range all {
				if !above(p, a, b) {
					continue
				}
				for s, list := range p.Shifts {
					inA, inB := held(list, a, s, p.Places[s]), held(list, b, s, p.Places[s])
					for at := range inA {
						if inA[at] > inB[at] {
							t.Fatal(p, a, b, s)
						}
					}
				}
			}
		}
	})
}

// P2.11: no hand gets a shift that they like more by another list.
func TestHonestHands(t *testing.T) {
	cases(200, func(p turns.Plan, r *rand.Rand) {
		first := got(t, p, turns.First)
		others := lists(len(p.Shifts))
		for h, own := range p.Hands {
			for _, list := range others {
				q := p
				q.Hands = slices.Clone(p.Hands)
				q.Hands[h] = list
				if m := got(t, q, turns.First); likes(own, m[h]) > likes(own, first[h]) {
					t.Fatal(p, h, list, m)
				}
			}
		}
	})
}

// Rules 2 and 4: the same calls give the same results, change no argument, and share no memory with anything.
func TestMemory(t *testing.T) {
	p := latin()
	a, b := []int{0, 1, 2}, []int{2, 0, 1}
	calls := []func() [][]int{
		func() [][]int { x, _ := turns.Stable(p); return x },
		func() [][]int { return [][]int{got(t, p, turns.First)} },
		func() [][]int { return [][]int{got(t, p, turns.Last)} },
		func() [][]int { return [][]int{got(t, p, middle(2))} },
		func() [][]int { return [][]int{got(t, p, join(a, b))} },
		func() [][]int { return [][]int{got(t, p, meet(a, b))} },
		func() [][]int { x, _ := turns.Lie(p, 0); return [][]int{x} },
		func() [][]int {
			x, _ := turns.Covers(p)
			y := [][]int{slices.Clone(x[0][:])}
			x[0] = [2]int{9, 9}
			return y
		},
		func() [][]int {
			x, _ := turns.Blocks(p, []int{-1, 1, 2})
			y := [][]int{slices.Clone(x[0][:])}
			x[0] = [2]int{9, 9}
			return y
		},
	}
	for k, call := range calls {
		first := call()
		var kept [][]int
		for _, m := range first {
			kept = append(kept, slices.Clone(m))
			for h := range m {
				m[h] = 9
			}
			_ = append(m[:len(m):cap(m)], 9)
		}
		if again := call(); !sameMatchings(again, kept) || len(kept[0]) == 0 {
			t.Error(k, kept, again)
		}
	}
	if !reflect.DeepEqual(p, latin()) || !slices.Equal(a, []int{0, 1, 2}) || !slices.Equal(b, []int{2, 0, 1}) {
		t.Error(p, a, b)
	}
}

// Rule 4: lists may share memory, and nil lists are empty ones.
func TestSharedLists(t *testing.T) {
	list := []int{1, 0}
	p := turns.Plan{Hands: [][]int{list, list}, Shifts: [][]int{list, list}, Places: list[:1:1]}
	p.Places = append(p.Places, 1)
	if l := allOf(t, p); !sameMatchings(l, [][]int{{0, 1}}) {
		t.Error(l)
	}
	if _, e := turns.Lie(p, 1); e != api.ErrNone || !slices.Equal(list, []int{1, 0}) {
		t.Error(e, list)
	}
	empty := turns.Plan{Hands: [][]int{{}, nil}, Shifts: [][]int{nil, {}}, Places: []int{1, 1}}
	if l := allOf(t, empty); !sameMatchings(l, [][]int{{-1, -1}}) {
		t.Error(l)
	}
}
