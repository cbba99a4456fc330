package split_test

import (
	"math/rand"
	"reflect"
	"slices"
	"testing"

	"corrody/api"
	"corrody/split"
)

// P1.7: Rounds, Cycles and Nash are fair up to one.
func TestUpToOne(t *testing.T) {
	cases(500, func(v [][]int, r *rand.Rand) {
		for k, f := range []func([][]int) ([]int, api.Errno){split.Rounds, split.Cycles, nash} {
			if d := dealt(t, f, v); !fair(t, v, d, 1) {
				t.Fatal(k, v, d)
			}
		}
	})
}

// P1.7: which kinds imply which.
func TestKinds(t *testing.T) {
	var seen [5]bool
	cases(5000, func(v [][]int, r *rand.Rand) {
		d := randomDivision(r, v)
		var is [5]bool
		for kind := range is {
			is[kind] = fair(t, v, d, kind)
			seen[kind] = seen[kind] || is[kind]
		}
		for _, c := range [][2]int{{0, 2}, {0, 3}, {2, 1}, {1, 4}, {3, 4}} {
			if is[c[0]] && !is[c[1]] {
				t.Fatal(v, d, c)
			}
		}
	})
	if seen != [5]bool{true, true, true, true, true} {
		t.Error("a kind was never seen", seen)
	}
}

// P1.11: for two people there is a division that is fair up to any.
func TestTwoPeople(t *testing.T) {
	r := rand.New(rand.NewSource(5))
	for range 500 {
		v := randomValues(r, 2, 1+r.Intn(api.MaxGoods))
		if !slices.ContainsFunc(all(2, len(v[0])), func(d []int) bool { return fair(t, v, d, 2) }) {
			t.Fatal(v)
		}
	}
}

// Rules 2 and 4: the same calls give the same results, change no argument, and share no memory with anything.
func TestMemory(t *testing.T) {
	v, d, l := example(), []int{1, 0, 0}, []int{5, 3, 1}
	calls := []func() []int{
		func() []int { x, _ := split.Rounds(v); return x },
		func() []int { x, _ := split.Cycles(v); return x },
		func() []int { x, _ := split.Split(l, 2); return x },
		func() []int { x, _, _ := split.Nash(v); return x },
		func() []int { x, _ := split.Least(v); return x },
		func() []int { x, _ := split.Better(v, d); return x },
		func() []int {
			pairs, _ := split.Envy(v, []int{0, 1, 0})
			x := []int{len(pairs), pairs[0][0], pairs[0][1]}
			pairs[0] = [2]int{9, 9}
			return x
		},
	}
	for k, call := range calls {
		first := call()
		kept := slices.Clone(first)
		for g := range first {
			first[g] = 9
		}
		if again := call(); !slices.Equal(again, kept) || len(kept) != 3 {
			t.Error(k, kept, again)
		}
	}
	if !reflect.DeepEqual(v, example()) || !slices.Equal(d, []int{1, 0, 0}) || !slices.Equal(l, []int{5, 3, 1}) {
		t.Error(v, d, l)
	}
}

// Rule 4: neither what was given nor its rows are changed, and rows may share memory.
func TestSharedRows(t *testing.T) {
	row := []int{3, 2, 1}
	v := [][]int{row, row, row}
	for _, f := range []func([][]int) ([]int, api.Errno){split.Rounds, split.Cycles, nash, split.Least} {
		if d := dealt(t, f, v); !slices.Equal(d, []int{0, 1, 2}) {
			t.Error(d)
		}
	}
	if !slices.Equal(row, []int{3, 2, 1}) {
		t.Error(row)
	}
}
