package vote_test

import (
	"math/rand"
	"slices"
	"testing"

	"corrody/api"
	"corrody/vote"
)

// P3.4: Axis.
func TestAxisExamples(t *testing.T) {
	for _, c := range []struct {
		l    [][]int
		want []int
	}{
		{peak(), []int{0, 1, 2}},
		// Whoever is last cannot be in the middle.
		{agreed(), []int{0, 2, 1}},
		{opposed(), []int{0, 1, 2, 3}},
		{alone(), []int{0}},
		{[][]int{{1, 0}, {0, 1}}, []int{0, 1}},
		{[][]int{{3, 2, 1, 0}}, []int{0, 1, 2, 3}},
		{[][]int{{0, 3, 2, 1}}, []int{0, 3, 2, 1}},
		{[][]int{{0, 2, 1, 3}, {1, 2, 0, 3}}, []int{0, 2, 1, 3}},
		// Of one axis and the same from its other end the first one.
		{[][]int{{0, 4, 3, 2, 1}, {3, 1, 0, 4, 2}, {4, 2, 0, 3, 1}}, []int{1, 3, 0, 4, 2}},
	} {
		if axis, e := vote.Axis(c.l); !slices.Equal(axis, c.want) || e != api.OK {
			t.Error(c.l, axis, e)
		}
		if voters, candidates, e := vote.Bend(c.l); voters != nil || candidates != nil || e != api.ErrNone {
			t.Error(c.l, voters, candidates, e)
		}
	}
}

// P3.4: Axis, by what it means to have one peak.
func TestAxisOfMany(t *testing.T) {
	with, without := 0, 0
	cases(500, func(l [][]int, r *rand.Rand) {
		axes := axesOf(l, upTo(len(l[0])))
		axis, e := vote.Axis(l)
		if len(axes) == 0 {
			without++
			if axis != nil || e != api.ErrNone {
				t.Fatal(l, axis, e)
			}
			return
		}
		with++
		if !slices.Equal(axis, axes[0]) || e != api.OK {
			t.Fatal(l, axis, e)
		}
	})
	if with < 100 || without < 100 {
		t.Error("too few of one kind", with, without)
	}
}

// P3.4: Bend.
func TestBendExamples(t *testing.T) {
	for _, c := range []struct {
		l                  [][]int
		voters, candidates []int
	}{
		{circle(), []int{0, 1, 2}, []int{0, 1, 2}},
		// Each of 1, 2 and 4 is last of the three once.
		{[][]int{{0, 1, 2, 3, 4}, {4, 1, 2, 3, 0}, {4, 3, 2, 1, 0}}, []int{0, 1, 2}, []int{1, 2, 4}},
		// Two ballots are enough if there are four candidates.
		{[][]int{{3, 0, 1, 2}, {3, 2, 1, 0}}, []int{0, 1}, []int{0, 1, 2, 3}},
		// But fewer candidates come before fewer ballots.
		{[][]int{{3, 0, 1, 2}, {3, 2, 1, 0}, {0, 2, 3, 1}}, []int{0, 1, 2}, []int{0, 1, 2}},
		// One of the candidates is in no circle.
		{[][]int{{0, 1, 2, 3}, {0, 2, 3, 1}, {0, 3, 1, 2}}, []int{0, 1, 2}, []int{1, 2, 3}},
		// The candidates 1 2 3 have the ballots 0 1 2, which are before 0 1 3, but the candidates are compared first.
		{[][]int{{0, 1, 2, 3}, {0, 2, 3, 1}, {0, 1, 3, 2}, {1, 2, 3, 0}}, []int{0, 1, 3}, []int{0, 1, 2}},
		// Equal ballots: the first ones.
		{[][]int{{0, 1, 2}, {0, 1, 2}, {1, 2, 0}, {0, 1, 2}, {2, 0, 1}, {2, 0, 1}}, []int{0, 2, 4}, []int{0, 1, 2}},
		// 4 is the best of all, and in no part.
		{[][]int{{4, 3, 0, 1, 2}, {4, 3, 0, 1, 2}, {4, 3, 2, 1, 0}}, []int{0, 2}, []int{0, 1, 2, 3}},
	} {
		if voters, candidates, e := vote.Bend(c.l); !slices.Equal(voters, c.voters) || !slices.Equal(candidates, c.candidates) || e != api.OK {
			t.Error(c.l, voters, candidates, e)
		}
		if axis, e := vote.Axis(c.l); axis != nil || e != api.ErrNone {
			t.Error(c.l, axis, e)
		}
	}
}

// bendOf is the first part without an axis of all that are sorted as Bend compares them.
func bendOf(l [][]int) [2][]int {
	var all [][2][]int
	for voters := 1; voters < 1<<len(l); voters++ {
		for candidates := 1; candidates < 1<<len(l[0]); candidates++ {
			all = append(all, [2][]int{membersOf(voters), membersOf(candidates)})
		}
	}
	slices.SortFunc(all, func(a, b [2][]int) int {
		for _, k := range []int{1, 0} {
			if len(a[k]) != len(b[k]) {
				return len(a[k]) - len(b[k])
			}
		}
		for _, k := range []int{1, 0} {
			if order := slices.Compare(a[k], b[k]); order != 0 {
				return order
			}
		}
		return 0
	})
	for _, part := range all {
		if len(axesOf(leaveOut(l, part[0], part[1]), part[1])) == 0 {
			return part
		}
	}
	return [2][]int{}
}

// P3.4: Bend, by its definition.
func TestBendOfMany(t *testing.T) {
	fours := 0
	check := func(l [][]int) {
		want := bendOf(l)
		voters, candidates, e := vote.Bend(l)
		if !slices.Equal(voters, want[0]) || !slices.Equal(candidates, want[1]) || (e == api.ErrNone) != (want[0] == nil) {
			t.Fatal(l, voters, candidates, e)
		}
		if len(candidates) == 4 {
			fours++
		}
	}
	r := rand.New(rand.NewSource(3))
	for range 150 {
		names, voters := 3+r.Intn(3), 1+r.Intn(5)
		axis := r.Perm(names)
		var l [][]int
		for at := range voters {
			if at < 2 {
				l = append(l, r.Perm(names))
			} else {
				l = append(l, randomPeak(r, axis))
			}
		}
		check(l)
	}
	if fours < 5 {
		t.Error("too few parts of four candidates", fours)
	}
}

// P3.4: invalid ballots.
func TestAxisErrors(t *testing.T) {
	for k, l := range badBallots() {
		if axis, e := vote.Axis(l); axis != nil || e != api.ErrArg {
			t.Error(k, axis, e)
		}
		if voters, candidates, e := vote.Bend(l); voters != nil || candidates != nil || e != api.ErrArg {
			t.Error(k, voters, candidates, e)
		}
	}
}
