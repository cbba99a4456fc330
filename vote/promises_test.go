package vote_test

import (
	"math/bits"
	"math/rand"
	"reflect"
	"slices"
	"testing"

	"corrody/api"
	"corrody/vote"
)

// P3.7: who beats all others is the best set, as strong as all others, and first in Kemeny's order.
func TestMajorities(t *testing.T) {
	found := 0
	cases(500, func(l [][]int, r *rand.Rand) {
		m, w := margins(t, l), widths(t, l)
		for a := range m {
			beats := true
			for b := range m {
				beats = beats && (b == a || m[a][b] > 0)
			}
			if !beats {
				continue
			}
			found++
			if order, _ := kemeny(t, l); best(t, l) != 1<<a || order[0] != a || win(t, l, 2) != a {
				t.Fatal(l, a)
			}
			for b := range w {
				if w[a][b] < w[b][a] {
					t.Fatal(l, a, b, w)
				}
			}
		}
	})
	if found < 100 {
		t.Error("too few who beat all others", found)
	}
}

// P3.8: being stronger goes on, and the first who is as strong as all others is in the best set.
func TestStrong(t *testing.T) {
	cases(500, func(l [][]int, r *rand.Rand) {
		w := widths(t, l)
		first := -1
		for a := len(w) - 1; a >= 0; a-- {
			as := true
			for b := range w {
				as = as && w[a][b] >= w[b][a]
				for c := range w {
					if w[a][b] > w[b][a] && w[b][c] > w[c][b] && w[a][c] <= w[c][a] {
						t.Fatal(l, a, b, c, w)
					}
				}
			}
			if as {
				first = a
			}
		}
		if first < 0 || best(t, l)&(1<<first) == 0 || win(t, l, 2) != first {
			t.Fatal(l, first)
		}
	})
}

// P3.9: Kemeny's disagreement is at least that of each pair alone, and that if majorities make no circle.
func TestOrders(t *testing.T) {
	plain := 0
	cases(500, func(l [][]int, r *rand.Rand) {
		_, sum := kemeny(t, l)
		m := margins(t, l)
		lesser, straight := 0, true
		for a := range m {
			for b := range m {
				if b > a {
					lesser += min(countBefore(l, a, b), countBefore(l, b, a))
				}
				straight = straight && (a == b || m[a][b] != 0)
				for c := range m {
					straight = straight && !(m[a][b] > 0 && m[b][c] > 0 && m[c][a] > 0)
				}
			}
		}
		if sum < lesser || straight && sum != lesser {
			t.Fatal(l, sum, lesser)
		}
		if straight {
			plain++
		}
	})
	if plain < 100 {
		t.Error("too few without a circle", plain)
	}
}

// middleOf is the first candidate on an axis that has half of the first places, or more, up to it.
func middleOf(l [][]int, axis []int) int {
	places := 0
	for _, a := range axis {
		for _, ballot := range l {
			if ballot[0] == a {
				places++
			}
		}
		if 2*places >= len(l) {
			return a
		}
	}
	return -1
}

// P3.10, and P2 of the whole: the middle of an axis beats all others, and wins by the rules of majorities.
func TestMiddle(t *testing.T) {
	oddPeaks(500, func(l [][]int) {
		axis, e := vote.Axis(l)
		if e != api.OK {
			t.Fatal(l, e)
		}
		for _, axis := range append(axesOf(l, upTo(len(l[0]))), axis) {
			a := middleOf(l, axis)
			m := margins(t, l)
			for b := range m {
				if b != a && m[a][b] <= 0 {
					t.Fatal(l, axis, a, b)
				}
			}
			if best(t, l) != 1<<a || win(t, l, 2) != a || win(t, l, 3) != a {
				t.Fatal(l, axis, a)
			}
		}
	})
}

// P3.10: just one of Axis and Bend is OK.
func TestAxisOrBend(t *testing.T) {
	cases(500, func(l [][]int, r *rand.Rand) {
		_, e := vote.Axis(l)
		voters, candidates, f := vote.Bend(l)
		if (e == api.OK) == (f == api.OK) || e != api.OK && e != api.ErrNone || f != api.OK && f != api.ErrNone {
			t.Fatal(l, e, f)
		}
		if f == api.OK && len(axesOf(leaveOut(l, voters, candidates), candidates)) > 0 {
			t.Fatal(l, voters, candidates)
		}
	})
}

// P3.11: no group blocks Committee's committee.
func TestNoGroup(t *testing.T) {
	r := rand.New(rand.NewSource(4))
	for range 1000 {
		c, k, l := randomApprovals(r)
		committee, e := vote.Committee(c, k, l)
		if e != api.OK || bits.OnesCount(uint(committee)) != k {
			t.Fatal(c, k, l, committee, e)
		}
		if group, e := vote.Group(c, k, l, committee); group != 0 || e != api.ErrNone {
			t.Fatal(c, k, l, committee, group, e)
		}
	}
}

// P3.12: nobody gains under rule 2 by a ballot that keeps an axis.
func TestHonestPeaks(t *testing.T) {
	oddPeaks(60, func(l [][]int) {
		honest := win(t, l, 2)
		ballots := permutations(upTo(len(l[0])))
		for _, axis := range axesOf(l, upTo(len(l[0]))) {
			for voter, own := range l {
				lied := slices.Clone(l)
				for _, ballot := range ballots {
					if !isAxis([][]int{ballot}, axis) {
						continue
					}
					lied[voter] = ballot
					if w := win(t, lied, 2); w != honest && hasBefore(own, w, honest) {
						t.Fatal(l, axis, voter, ballot)
					}
				}
			}
		}
	})
}

// Rules 2 and 4: the same calls give the same results, change no argument, and share no memory with anything.
func TestMemory(t *testing.T) {
	l, approvals := circle(), []int{1, 1, 2, 4}
	calls := []func() [][]int{
		func() [][]int { return margins(t, l) },
		func() [][]int { return widths(t, l) },
		func() [][]int { path, _ := vote.Path(l, 0, 2); return [][]int{path} },
		func() [][]int { order, _ := kemeny(t, l); return [][]int{order} },
		func() [][]int { axis, _ := vote.Axis(l[:2]); return [][]int{axis} },
		func() [][]int { voters, candidates, _ := vote.Bend(l); return [][]int{voters, candidates} },
		func() [][]int { _, ballot, _ := vote.Lie(l, 0); return [][]int{ballot} },
		func() [][]int { order, _ := kemeny(t, l[1:2]); return [][]int{order} },
		func() [][]int { set, _ := vote.Committee(3, 2, approvals); return [][]int{{set}} },
		func() [][]int { group, _ := vote.Group(3, 2, approvals, 6); return [][]int{{group}} },
	}
	for k, call := range calls {
		first := call()
		var kept [][]int
		for _, row := range first {
			kept = append(kept, slices.Clone(row))
		}
		for at, row := range first {
			for x := range row {
				row[x] = 9
			}
			_ = append(row[:len(row):cap(row)], 9)
			for _, other := range first[at+1:] {
				if slices.Contains(other, 9) {
					t.Error(k, "rows that share memory")
				}
			}
		}
		if again := call(); !same(again, kept) || len(kept[0]) == 0 {
			t.Error(k, kept, again)
		}
	}
	if !reflect.DeepEqual(l, circle()) || !slices.Equal(approvals, []int{1, 1, 2, 4}) {
		t.Error(l, approvals)
	}
}

// Rule 4: ballots may share memory with one another, and with an order.
func TestSharedBallots(t *testing.T) {
	ballot := []int{2, 0, 1}
	l := [][]int{ballot, ballot, ballot}
	if n, e := vote.Disagreement(l, ballot); n != 0 || e != api.OK {
		t.Error(n, e)
	}
	for rule := range 4 {
		if _, _, e := vote.Lie(l, rule); e != api.ErrNone {
			t.Error(rule, e)
		}
	}
	if !reflect.DeepEqual(l, agreed()) {
		t.Error(l)
	}
}
