package split_test

import (
	"math/rand"
	"slices"
	"testing"

	"corrody/api"
	"corrody/split"
)

// P1.1: Envy.
func TestEnvyExamples(t *testing.T) {
	for _, c := range []struct {
		v    [][]int
		d    []int
		want [][2]int
	}{
		{example(), []int{0, 1, 0}, [][2]int{{1, 0}}},
		{example(), []int{0, 1, 1}, nil},
		{example(), []int{0, 0, 0}, [][2]int{{1, 0}}},
		{[][]int{{7}}, []int{0}, nil},
		{[][]int{{0, 0}, {0, 0}}, []int{0, 0}, nil},
		{[][]int{{2, 2}, {2, 2}}, []int{0, 1}, nil},
		{[][]int{{0, 1}, {1, 0}}, []int{0, 1}, [][2]int{{0, 1}, {1, 0}}},
		{[][]int{{1}, {1}, {1}, {1}}, []int{2}, [][2]int{{0, 2}, {1, 2}, {3, 2}}},
		{[][]int{{1, 2, 3}, {3, 1, 2}, {2, 3, 1}}, []int{0, 1, 2}, [][2]int{{0, 1}, {0, 2}, {1, 0}, {1, 2}, {2, 0}, {2, 1}}},
	} {
		if l, e := split.Envy(c.v, c.d); !slices.Equal(l, c.want) || e != api.OK {
			t.Error(c.v, c.d, l, e)
		}
	}
}

// P1.1: Envy, by its definition.
func TestEnvyOfMany(t *testing.T) {
	cases(2000, func(v [][]int, r *rand.Rand) {
		d := randomDivision(r, v)
		var want [][2]int
		for i := range v {
			for j := range v {
				if worth(v[i], d, j) > worth(v[i], d, i) {
					want = append(want, [2]int{i, j})
				}
			}
		}
		if l, e := split.Envy(v, d); !slices.Equal(l, want) || e != api.OK {
			t.Fatal(v, d, l, e)
		}
	})
}

// P1.1: Fair.
func TestFairExamples(t *testing.T) {
	for _, c := range []struct {
		v    [][]int
		d    []int
		want [5]bool
	}{
		{example(), []int{0, 1, 0}, [5]bool{false, true, true, false, true}},
		{example(), []int{0, 1, 1}, [5]bool{true, true, true, true, true}},
		{[][]int{{7}}, []int{0}, [5]bool{true, true, true, true, true}},
		// A good that is worth 0 counts for kind 2.
		{[][]int{{1, 0}, {1, 0}}, []int{1, 1}, [5]bool{false, true, false, false, true}},
		{[][]int{{1, 0}, {1, 0}}, []int{1, 0}, [5]bool{false, true, true, false, true}},
		// The two goods that are left without one of the three are too many.
		{[][]int{{1, 1, 1}, {1, 1, 1}}, []int{1, 1, 1}, [5]bool{false, false, false, false, false}},
		// Two halves are proportional, as is just enough with one more.
		{[][]int{{2, 1, 1}, {2, 1, 1}}, []int{0, 1, 1}, [5]bool{true, true, true, true, true}},
		{[][]int{{2, 1, 1}, {2, 1, 1}}, []int{1, 1, 1}, [5]bool{false, false, false, false, true}},
		// Of three people one may have their third and envy another one by two goods.
		{[][]int{{1, 1, 1}, {0, 0, 0}, {0, 0, 0}}, []int{0, 1, 1}, [5]bool{false, true, true, true, true}},
		{[][]int{{2, 2, 2, 0}, {0, 0, 0, 0}, {0, 0, 0, 0}}, []int{1, 1, 1, 0}, [5]bool{false, false, false, false, true}},
		{[][]int{{3, 3, 3}, {1, 0, 0}, {0, 0, 0}}, []int{0, 1, 1}, [5]bool{false, true, true, false, true}},
		{[][]int{{2, 2, 2, 3}, {0, 0, 0, 0}, {0, 0, 0, 0}}, []int{1, 1, 1, 0}, [5]bool{false, false, false, true, true}},
		// The one good more must be another person's, and one alone.
		{[][]int{{1, 1, 1, 1, 1}, {0, 0, 0, 0, 0}}, []int{0, 1, 1, 1, 1}, [5]bool{false, false, false, false, false}},
		{[][]int{{3, 1, 1, 1, 1, 1, 1}, {0, 0, 0, 0, 0, 0, 0}}, []int{0, 1, 1, 1, 1, 1, 1}, [5]bool{false, false, false, false, false}},
		{[][]int{{3, 1, 1, 1, 2}, {0, 0, 0, 0, 0}}, []int{0, 1, 1, 1, 1}, [5]bool{false, true, false, false, true}},
	} {
		for kind, want := range c.want {
			if ok := fair(t, c.v, c.d, kind); ok != want {
				t.Error(c.v, c.d, kind, ok)
			}
		}
	}
}

// P1.1: Fair, by its definitions.
func TestFairOfMany(t *testing.T) {
	cases(3000, func(v [][]int, r *rand.Rand) {
		d := randomDivision(r, v)
		for kind := range 5 {
			if fair(t, v, d, kind) != fairByDefinition(v, d, kind) {
				t.Fatal(v, d, kind)
			}
		}
	})
}

func fairByDefinition(v [][]int, d []int, kind int) bool {
	for i, row := range v {
		own := worth(row, d, i)
		if kind >= 3 && !proportionalTo(row, d, i, len(v), kind == 4) {
			return false
		}
		for j := range v {
			if kind >= 3 || worth(row, d, j) <= own {
				continue
			}
			// What j has without one good, for each good of j.
			var without []int
			for g := range row {
				if d[g] == j {
					without = append(without, worth(row, d, j)-row[g])
				}
			}
			if kind == 0 || kind == 1 && slices.Min(without) > own || kind == 2 && slices.Max(without) > own {
				return false
			}
		}
	}
	return true
}

func proportionalTo(row, d []int, i, n int, upToOne bool) bool {
	most := 0
	for g := range row {
		if d[g] != i && upToOne {
			most = max(most, row[g])
		}
	}
	return (worth(row, d, i)+most)*n >= total(row)
}

// P1.1: what is no argument.
func TestEnvyErrors(t *testing.T) {
	check := func(v [][]int, d []int) {
		if l, e := split.Envy(v, d); len(l) > 0 || e != api.ErrArg {
			t.Error("Envy", d, l, e)
		}
		for kind := range 5 {
			if ok, e := split.Fair(v, d, kind); ok || e != api.ErrArg {
				t.Error("Fair", d, kind, ok, e)
			}
		}
	}
	for _, v := range badValues() {
		check(v, []int{0, 0})
		check(v, []int{0})
		check(v, nil)
	}
	for _, d := range badDivisions() {
		check(example(), d)
	}
	for _, kind := range []int{-1, 5, -1 << 63, 1<<63 - 1} {
		if ok, e := split.Fair(example(), []int{0, 1, 1}, kind); ok || e != api.ErrArg {
			t.Error(kind, ok, e)
		}
	}
}

// P1.10: renaming people, or goods, renames the results.
func TestRenaming(t *testing.T) {
	cases(2000, func(v [][]int, r *rand.Rand) {
		d := randomDivision(r, v)
		people, goods := r.Perm(len(v)), r.Perm(len(d))
		w, c := make([][]int, len(v)), make([]int, len(d))
		for i := range v {
			w[people[i]] = make([]int, len(d))
			for g := range d {
				w[people[i]][goods[g]] = v[i][g]
			}
		}
		for g := range d {
			c[goods[g]] = people[d[g]]
		}
		before, e1 := split.Envy(v, d)
		after, e2 := split.Envy(w, c)
		if e1 != api.OK || e2 != api.OK || len(before) != len(after) {
			t.Fatal(v, d, e1, e2, before, after)
		}
		for _, p := range before {
			if !slices.Contains(after, [2]int{people[p[0]], people[p[1]]}) {
				t.Fatal(v, d, people, goods, before, after)
			}
		}
		for kind := range 5 {
			if fair(t, v, d, kind) != fair(t, w, c, kind) {
				t.Fatal(v, d, people, goods, kind)
			}
		}
	})
}
