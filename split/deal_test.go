package split_test

import (
	"math/rand"
	"slices"
	"testing"

	"corrody/api"
	"corrody/split"
)

// P1.2: Rounds.
func TestRoundsExamples(t *testing.T) {
	for _, c := range []struct {
		v    [][]int
		want []int
	}{
		{example(), []int{0, 1, 0}},
		{[][]int{{7}}, []int{0}},
		{[][]int{{1, 2, 3}}, []int{0, 0, 0}},
		{[][]int{{0, 0, 0}, {0, 0, 0}}, []int{0, 1, 0}},
		{[][]int{{1, 5, 5}, {5, 5, 1}}, []int{1, 0, 0}},
		{[][]int{{3}, {3}, {3}}, []int{0}},
		{[][]int{{1, 9}, {9, 1}, {9, 9}}, []int{1, 0}},
		{[][]int{{1, 2, 3, 4, 5, 6, 7}, {1, 2, 3, 4, 5, 6, 7}, {7, 6, 5, 4, 3, 2, 1}}, []int{2, 2, 0, 1, 0, 1, 0}},
	} {
		if d, e := split.Rounds(c.v); !slices.Equal(d, c.want) || e != api.OK {
			t.Error(c.v, d, e)
		}
	}
}

// P1.2: Rounds, by its definition.
func TestRoundsOfMany(t *testing.T) {
	cases(2000, func(v [][]int, r *rand.Rand) {
		want := slices.Repeat([]int{-1}, len(v[0]))
		for taken := 0; taken < len(want); taken++ {
			i, best := taken%len(v), -1
			for g := len(want) - 1; g >= 0; g-- {
				if want[g] < 0 && (best < 0 || v[i][g] >= v[i][best]) {
					best = g
				}
			}
			want[best] = i
		}
		if d := dealt(t, split.Rounds, v); !slices.Equal(d, want) {
			t.Fatal(v, d, want)
		}
	})
}

// P1.3: Cycles.
func TestCyclesExamples(t *testing.T) {
	for _, c := range []struct {
		v    [][]int
		want []int
	}{
		{example(), []int{0, 1, 0}},
		{[][]int{{7}}, []int{0}},
		{[][]int{{7, 8}}, []int{0, 0}},
		{[][]int{{0, 0, 0}, {0, 0, 0}}, []int{0, 0, 0}},
		// Good 0 to 0, good 1 to 1; they envy each other and exchange them, then nobody does.
		{[][]int{{1, 2, 0}, {2, 1, 0}}, []int{1, 0, 0}},
		// The exchange comes only if there is another good to give.
		{[][]int{{1, 2}, {2, 1}}, []int{0, 1}},
		// Each one of three people envies the next one only.
		{[][]int{{2, 3, 0, 0}, {0, 2, 3, 0}, {3, 0, 2, 0}}, []int{2, 0, 1, 0}},
		// Likewise with four people.
		{[][]int{{2, 3, 0, 0, 0}, {0, 2, 3, 0, 0}, {0, 0, 2, 3, 0}, {3, 0, 0, 2, 0}}, []int{3, 0, 1, 2, 0}},
		// 0 and 2 envy each other, as do 1 and 2: the first cycle is 0 2.
		{[][]int{{1, 1, 2, 9}, {1, 1, 2, 9}, {2, 2, 1, 9}}, []int{2, 1, 0, 1}},
		// 1 2 is a shorter cycle than 0 1 2.
		{[][]int{{1, 2, 0, 9}, {0, 1, 2, 9}, {3, 2, 1, 9}}, []int{0, 2, 1, 1}},
	} {
		if d, e := split.Cycles(c.v); !slices.Equal(d, c.want) || e != api.OK {
			t.Error(c.v, d, e)
		}
	}
}

// P1.3: Cycles, by its definition.
func TestCyclesOfMany(t *testing.T) {
	lengths := map[int]int{}
	cases(20000, func(v [][]int, r *rand.Rand) {
		want := cyclesByDefinition(v, lengths)
		if d := dealt(t, split.Cycles, v); !slices.Equal(d, want) {
			t.Fatal(v, d, want)
		}
	})
	if lengths[2] == 0 || lengths[3] == 0 {
		t.Error("there were no cycles of these lengths", lengths)
	}
}

// cyclesByDefinition counts in lengths how long the cycles were.
func cyclesByDefinition(v [][]int, lengths map[int]int) []int {
	d := slices.Repeat([]int{-1}, len(v[0]))
	for g := 0; g < len(d); {
		free := -1
		for j := len(v) - 1; j >= 0; j-- {
			envied := false
			for i := range v {
				envied = envied || worth(v[i], d, j) > worth(v[i], d, i)
			}
			if !envied {
				free = j
			}
		}
		if free >= 0 {
			d[g] = free
			g++
			continue
		}
		cycle := firstCycle(v, d)
		lengths[len(cycle)]++
		next := slices.Clone(d)
		for k, i := range cycle {
			for h := range d {
				if d[h] == cycle[(k+1)%len(cycle)] {
					next[h] = i
				}
			}
		}
		d = next
	}
	return d
}

// firstCycle returns the first of the shortest cycles of envy: of all slices of people it takes those that are one, and sorts them.
func firstCycle(v [][]int, d []int) []int {
	var found [][]int
	for length := 1; length <= len(v); length++ {
		for _, l := range all(len(v), length) {
			ok := true
			for k, i := range l {
				next := l[(k+1)%length]
				ok = ok && slices.Index(l, i) == k && worth(v[i], d, next) > worth(v[i], d, i)
			}
			if ok {
				found = append(found, l)
			}
		}
	}
	return slices.MinFunc(found, func(a, b []int) int {
		if len(a) != len(b) {
			return len(a) - len(b)
		}
		return slices.Compare(a, b)
	})
}

// P1.2, P1.3: what is no argument.
func TestDealErrors(t *testing.T) {
	for _, v := range badValues() {
		if d, e := split.Rounds(v); len(d) > 0 || e != api.ErrArg {
			t.Error("Rounds", d, e)
		}
		if d, e := split.Cycles(v); len(d) > 0 || e != api.ErrArg {
			t.Error("Cycles", d, e)
		}
	}
}
