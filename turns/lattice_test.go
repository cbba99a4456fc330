package turns_test

import (
	"math/rand"
	"slices"
	"testing"

	"corrody/api"
	"corrody/turns"
)

// P2.2: First and Last.
func TestFirstLastExamples(t *testing.T) {
	for _, c := range []struct {
		p           turns.Plan
		first, last []int
	}{
		{example(), []int{0, 1}, []int{1, 0}},
		{strangers(), []int{-1}, []int{-1}},
		{latin(), []int{0, 1, 2}, []int{2, 0, 1}},
		{twice(), []int{0, 1, 2, 3}, []int{1, 0, 3, 2}},
		{roomy(), []int{0, 0, 1, 1, -1}, []int{1, 1, 0, 0, -1}},
	} {
		if m := got(t, c.p, turns.First); !slices.Equal(m, c.first) {
			t.Error(c.p, m)
		}
		if m := got(t, c.p, turns.Last); !slices.Equal(m, c.last) {
			t.Error(c.p, m)
		}
	}
}

// P2.2 and P2.7: First and Last are stable; First is at least as good as every stable matching, and each of them as Last.
func TestFirstLastOfMany(t *testing.T) {
	cases(500, func(p turns.Plan, r *rand.Rand) {
		first, last := got(t, p, turns.First), got(t, p, turns.Last)
		all := stables(p)
		if !slices.ContainsFunc(all, func(m []int) bool { return slices.Equal(m, first) }) {
			t.Fatal(p, first)
		}
		if !slices.ContainsFunc(all, func(m []int) bool { return slices.Equal(m, last) }) {
			t.Fatal(p, last)
		}
		for _, m := range all {
			if !above(p, first, m) || !above(p, m, last) {
				t.Fatal(p, first, m, last)
			}
		}
	})
}

// P2.3: Join and Meet.
func TestJoinMeetExamples(t *testing.T) {
	for _, c := range []struct {
		p                turns.Plan
		a, b, join, meet []int
	}{
		{example(), []int{0, 1}, []int{1, 0}, []int{0, 1}, []int{1, 0}},
		{example(), []int{1, 0}, []int{0, 1}, []int{0, 1}, []int{1, 0}},
		{example(), []int{1, 0}, []int{1, 0}, []int{1, 0}, []int{1, 0}},
		{strangers(), []int{-1}, []int{-1}, []int{-1}, []int{-1}},
		// Neither of the two is at least as good as the other one.
		{twice(), []int{0, 1, 3, 2}, []int{1, 0, 2, 3}, []int{0, 1, 2, 3}, []int{1, 0, 3, 2}},
		{latin(), []int{1, 2, 0}, []int{2, 0, 1}, []int{1, 2, 0}, []int{2, 0, 1}},
		{roomy(), []int{1, 1, 0, 0, -1}, []int{1, 0, 1, 0, -1}, []int{1, 0, 1, 0, -1}, []int{1, 1, 0, 0, -1}},
	} {
		if m := got(t, c.p, join(c.a, c.b)); !slices.Equal(m, c.join) {
			t.Error(c.p, c.a, c.b, m)
		}
		if m := got(t, c.p, meet(c.a, c.b)); !slices.Equal(m, c.meet) {
			t.Error(c.p, c.a, c.b, m)
		}
	}
}

// P2.3 and P2.8: Join and Meet, by their definitions, are stable, the least one above both and the greatest one below both.
func TestJoinMeetOfMany(t *testing.T) {
	cases(300, func(p turns.Plan, r *rand.Rand) {
		all := stables(p)
		for _, a := range all {
			for _, b := range all {
				more, less := got(t, p, join(a, b)), got(t, p, meet(a, b))
				if len(blocking(p, more)) > 0 || len(blocking(p, less)) > 0 {
					t.Fatal(p, a, b, more, less)
				}
				for h, list := range p.Hands {
					x, y := a[h], b[h]
					if likes(list, x) < likes(list, y) {
						x, y = y, x
					}
					if more[h] != x || less[h] != y {
						t.Fatal(p, a, b, more, less)
					}
				}
			}
		}
	})
}

// P2.4: Middle.
func TestMiddleExamples(t *testing.T) {
	for _, c := range []struct {
		p    turns.Plan
		want [][]int
	}{
		{example(), [][]int{{0, 1}, {1, 0}}},
		{strangers(), [][]int{{-1}}},
		{latin(), [][]int{{0, 1, 2}, {1, 2, 0}, {2, 0, 1}}},
		// What a hand has in two matchings counts twice.
		{twice(), [][]int{{0, 1, 2, 3}, {0, 1, 2, 3}, {1, 0, 3, 2}, {1, 0, 3, 2}}},
		{roomy(), [][]int{{0, 0, 1, 1, -1}, {1, 0, 1, 0, -1}, {1, 1, 0, 0, -1}}},
	} {
		for k, want := range c.want {
			if m := got(t, c.p, middle(k+1)); !slices.Equal(m, want) {
				t.Error(c.p, k+1, m)
			}
		}
		for _, k := range []int{0, -1, len(c.want) + 1, -1 << 63, 1<<63 - 1} {
			if m, e := turns.Middle(c.p, k); m != nil || e != api.ErrArg {
				t.Error(c.p, k, m, e)
			}
		}
	}
}

// P2.4 and P2.8: Middle, by its definition, is stable; of 1 it is First, of the greatest k Last.
func TestMiddleOfMany(t *testing.T) {
	cases(300, func(p turns.Plan, r *rand.Rand) {
		all := stables(p)
		for k := 1; k <= len(all); k++ {
			m := got(t, p, middle(k))
			if len(blocking(p, m)) > 0 {
				t.Fatal(p, k, m)
			}
			for h, list := range p.Hands {
				more, same := 0, 0
				for _, other := range all {
					if likes(list, other[h]) > likes(list, m[h]) {
						more++
					} else if other[h] == m[h] {
						same++
					}
				}
				if more >= k || more+same < k {
					t.Fatal(p, k, m)
				}
			}
			if k == 1 && !slices.Equal(m, got(t, p, turns.First)) || k == len(all) && !slices.Equal(m, got(t, p, turns.Last)) {
				t.Fatal(p, k, m)
			}
		}
	})
}

// P2.5: Covers.
func TestCoversExamples(t *testing.T) {
	for _, c := range []struct {
		p    turns.Plan
		want [][2]int
	}{
		{example(), [][2]int{{0, 1}}},
		{strangers(), nil},
		// A chain: the first is above the last one, but there is one between them.
		{latin(), [][2]int{{0, 1}, {1, 2}}},
		{twice(), [][2]int{{0, 1}, {0, 2}, {1, 3}, {2, 3}}},
		{roomy(), [][2]int{{0, 1}, {1, 2}}},
		// The better one has the greater index.
		{turns.Plan{Hands: [][]int{{1, 0}, {0, 1}}, Shifts: [][]int{{0, 1}, {1, 0}}, Places: []int{1, 1}}, [][2]int{{1, 0}}},
	} {
		if l, e := turns.Covers(c.p); !slices.Equal(l, c.want) || e != api.OK {
			t.Error(c.p, l, e)
		}
	}
}

// P2.5 and P2.12: Covers, by its definition, and each stable matching is reached from First.
func TestCoversOfMany(t *testing.T) {
	cases(500, func(p turns.Plan, r *rand.Rand) {
		all := stables(p)
		var want [][2]int
		for a := range all {
			for b := range all {
				between := 0
				for c := range all {
					if above(p, all[a], all[c]) && above(p, all[c], all[b]) {
						between++
					}
				}
				if between == 2 {
					want = append(want, [2]int{a, b})
				}
			}
		}
		l, e := turns.Covers(p)
		if !slices.Equal(l, want) || e != api.OK {
			t.Fatal(p, l, e)
		}
		reached := make([]bool, len(all))
		first := got(t, p, turns.First)
		reached[slices.IndexFunc(all, func(m []int) bool { return slices.Equal(m, first) })] = true
		for range all {
			for _, pair := range l {
				reached[pair[1]] = reached[pair[1]] || reached[pair[0]]
			}
		}
		if slices.Contains(reached, false) {
			t.Fatal(p, l, reached)
		}
	})
}

// P2.2 to P2.5: invalid plans.
func TestLatticeErrors(t *testing.T) {
	for _, p := range badPlans() {
		for k, f := range []func(turns.Plan) ([]int, api.Errno){turns.First, turns.Last, middle(1), middle(0), join([]int{0, 1}, []int{1, 0}), meet([]int{0, 1}, []int{1, 0}), join(nil, nil), meet(nil, nil)} {
			if m, e := f(p); m != nil || e != api.ErrArg {
				t.Error(len(p.Hands), k, m, e)
			}
		}
		if l, e := turns.Covers(p); l != nil || e != api.ErrArg {
			t.Error(len(p.Hands), l, e)
		}
	}
}

// P2.3: ErrArg for what is no matching comes before ErrState for one that is not stable.
func TestJoinMeetErrors(t *testing.T) {
	p, bad := badMatchings()
	stable, other := []int{0, 1}, []int{0, -1}
	for _, f := range []func(a, b []int) func(turns.Plan) ([]int, api.Errno){join, meet} {
		for _, m := range bad {
			for _, good := range [][]int{stable, other} {
				if l, e := f(m, good)(p); l != nil || e != api.ErrArg {
					t.Error(len(m), good, l, e)
				}
				if l, e := f(good, m)(p); l != nil || e != api.ErrArg {
					t.Error(len(m), good, l, e)
				}
			}
		}
		for _, c := range [][2][]int{{stable, other}, {other, stable}, {other, other}} {
			if l, e := f(c[0], c[1])(p); l != nil || e != api.ErrState {
				t.Error(c, l, e)
			}
		}
		if _, e := f(stable, stable)(p); e != api.OK {
			t.Error(e)
		}
	}
}
