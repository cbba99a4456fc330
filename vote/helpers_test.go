package vote_test

import (
	"math/big"
	"math/rand"
	"slices"
	"testing"

	"corrody/api"
	"corrody/vote"
)

// circle is the chapter's first example.
func circle() [][]int { return [][]int{{0, 1, 2}, {1, 2, 0}, {2, 0, 1}} }

// peak is the chapter's second example.
func peak() [][]int { return [][]int{{0, 1, 2}, {1, 0, 2}, {2, 1, 0}} }

// opposed is two ballots that agree on nothing.
func opposed() [][]int { return [][]int{{0, 1, 2, 3}, {3, 2, 1, 0}} }

// agreed is three equal ballots.
func agreed() [][]int { return [][]int{{2, 0, 1}, {2, 0, 1}, {2, 0, 1}} }

// alone is a ballot without a choice.
func alone() [][]int { return [][]int{{0}} }

// apart is ballots on which every rule has another winner: 0 beats 1, 1 beats 3, 2 beats 0 and 1, 3 beats 0 and 2, all by 1.
func apart() [][]int { return [][]int{{3, 0, 2, 1}, {2, 0, 1, 3}, {1, 3, 2, 0}} }

// detour is ballots on which all paths from 0 lose, the one over 2 by the least.
func detour() [][]int { return [][]int{{2, 1, 0}, {2, 1, 0}, {1, 0, 2}} }

// randomBallots returns ballots of any shape. One peak and repeated ballots are frequent, as they make axes, ties and winners.
func randomBallots(r *rand.Rand) [][]int {
	names, voters := 1+r.Intn(api.MaxNames), 1+r.Intn(api.MaxVoters)
	kind := r.Intn(3)
	axis := r.Perm(names)
	var l [][]int
	for range voters {
		switch {
		case kind == 0 && len(l) > 0 && r.Intn(2) == 0:
			l = append(l, slices.Clone(l[r.Intn(len(l))]))
		case kind == 1:
			l = append(l, randomPeak(r, axis))
		default:
			l = append(l, r.Perm(names))
		}
	}
	return l
}

// randomPeak returns a ballot that has one peak on an axis.
func randomPeak(r *rand.Rand, axis []int) []int {
	from := r.Intn(len(axis))
	to := from + 1
	ballot := []int{axis[from]}
	for len(ballot) < len(axis) {
		if to == len(axis) || from > 0 && r.Intn(2) == 0 {
			from--
			ballot = append(ballot, axis[from])
		} else {
			ballot = append(ballot, axis[to])
			to++
		}
	}
	return ballot
}

// cases calls f with count ballots from a fixed sequence.
func cases(count int, f func(l [][]int, r *rand.Rand)) {
	r := rand.New(rand.NewSource(1))
	for range count {
		f(randomBallots(r), r)
	}
}

// oddPeaks calls f with count odd numbers of ballots that have an axis, from a fixed sequence.
func oddPeaks(count int, f func(l [][]int)) {
	r := rand.New(rand.NewSource(1))
	for range count {
		axis := r.Perm(1 + r.Intn(api.MaxNames))
		var l [][]int
		for range 1 + 2*r.Intn(5) {
			l = append(l, randomPeak(r, axis))
		}
		f(l)
	}
}

// permutations returns all orders of things, in order.
func permutations(things []int) [][]int {
	l := [][]int{nil}
	for _, x := range things {
		var longer [][]int
		for _, order := range l {
			for at := range len(order) + 1 {
				longer = append(longer, slices.Insert(slices.Clone(order), at, x))
			}
		}
		l = longer
	}
	slices.SortFunc(l, slices.Compare)
	return l
}

// upTo returns the numbers below n.
func upTo(n int) []int { return membersOf(1<<n - 1) }

// membersOf returns the members of a set, rising.
func membersOf(set int) []int {
	var l []int
	for x := range 10 {
		if set&(1<<x) != 0 {
			l = append(l, x)
		}
	}
	return l
}

// hasBefore reports whether a ballot has a before b.
func hasBefore(ballot []int, a, b int) bool {
	for _, x := range ballot {
		if x == a || x == b {
			return x == a
		}
	}
	return false
}

// countBefore returns how many ballots have a before b.
func countBefore(l [][]int, a, b int) int {
	n := 0
	for _, ballot := range l {
		if hasBefore(ballot, a, b) {
			n++
		}
	}
	return n
}

// marginOf is the margin of a over b, by the definition.
func marginOf(l [][]int, a, b int) int {
	return countBefore(l, a, b) - countBefore(l, b, a)
}

// dominant reports whether each of a set beats all others.
func dominant(l [][]int, set int) bool {
	for _, a := range membersOf(set) {
		for b := range len(l[0]) {
			if !slices.Contains(membersOf(set), b) && marginOf(l, a, b) <= 0 {
				return false
			}
		}
	}
	return true
}

// paths returns all paths from a to b: those with fewer candidates first, and then in order.
func paths(names, a, b int) [][]int {
	var l [][]int
	for set := range 1 << names {
		between := membersOf(set)
		if slices.Contains(between, a) || slices.Contains(between, b) {
			continue
		}
		for _, order := range permutations(between) {
			l = append(l, append(append([]int{a}, order...), b))
		}
	}
	slices.SortFunc(l, func(x, y []int) int {
		if len(x) != len(y) {
			return len(x) - len(y)
		}
		return slices.Compare(x, y)
	})
	return l
}

// strengthOf is the strength of a path, by the definition.
func strengthOf(l [][]int, path []int) int {
	var margins []int
	for at := 1; at < len(path); at++ {
		margins = append(margins, marginOf(l, path[at-1], path[at]))
	}
	return slices.Min(margins)
}

// widthOf is the width from a to b, by the definition.
func widthOf(l [][]int, a, b int) int {
	var strengths []int
	for _, path := range paths(len(l[0]), a, b) {
		strengths = append(strengths, strengthOf(l, path))
	}
	return slices.Max(strengths)
}

// disagreementOf is the disagreement of an order with ballots, by the definition.
func disagreementOf(l [][]int, order []int) int {
	sum := 0
	for _, ballot := range l {
		for a := range len(order) {
			for b := range a {
				if hasBefore(ballot, a, b) != hasBefore(order, a, b) {
					sum++
				}
			}
		}
	}
	return sum
}

// kemenyOf is the first order with the least disagreement.
func kemenyOf(l [][]int) []int {
	return slices.MinFunc(permutations(upTo(len(l[0]))), func(a, b []int) int { return disagreementOf(l, a) - disagreementOf(l, b) })
}

// leaveOut returns some of the ballots with some of the candidates.
func leaveOut(l [][]int, voters, candidates []int) [][]int {
	var part [][]int
	for _, v := range voters {
		part = append(part, slices.DeleteFunc(slices.Clone(l[v]), func(a int) bool { return !slices.Contains(candidates, a) }))
	}
	return part
}

// isAxis reports whether the best so many of each ballot stand side by side on an order: that is what it means to have one peak.
func isAxis(l [][]int, order []int) bool {
	for _, ballot := range l {
		from, to := len(order), -1
		for at, a := range ballot {
			place := slices.Index(order, a)
			from, to = min(from, place), max(to, place)
			if to-from != at {
				return false
			}
		}
	}
	return true
}

// axesOf returns all axes, in order.
func axesOf(l [][]int, candidates []int) [][]int {
	return slices.DeleteFunc(permutations(candidates), func(order []int) bool { return !isAxis(l, order) })
}

// scoreOf is the score of a committee, by the definition.
func scoreOf(l []int, committee int) *big.Rat {
	sum := new(big.Rat)
	for _, set := range l {
		for m := range membersOf(set & committee) {
			sum.Add(sum, big.NewRat(1, int64(m+1)))
		}
	}
	return sum
}

// blocks reports whether a group blocks a committee of k, by the definition.
func blocks(k int, l []int, committee, group int) bool {
	all, size := 1<<8-1, 0
	for _, voter := range membersOf(group) {
		size++
		all &= l[voter]
		if l[voter]&committee != 0 {
			return false
		}
	}
	return size*k >= len(l) && all != 0
}

// randomApprovals returns a number of candidates, the size of a committee, and approvals.
func randomApprovals(r *rand.Rand) (c, k int, l []int) {
	c = 1 + r.Intn(8)
	k = 1 + r.Intn(c)
	few := r.Intn(2) == 0
	for range 1 + r.Intn(api.MaxVoters) {
		set := r.Intn(1 << c)
		if few {
			set = 1 << r.Intn(c)
		}
		l = append(l, set)
	}
	return c, k, l
}

// winnerOf is the winner by a rule, by the definition.
func winnerOf(l [][]int, rule int) int {
	names := len(l[0])
	points := make([]int, names)
	switch rule {
	case 0:
		for a := range names {
			points[a] = len(slices.DeleteFunc(slices.Clone(l), func(ballot []int) bool { return ballot[0] != a }))
		}
	case 1:
		for a := range names {
			for b := range names {
				if b != a {
					points[a] += countBefore(l, a, b)
				}
			}
		}
	case 2:
		for a := range names {
			points[a] = 1
			for b := range names {
				if a != b && widthOf(l, a, b) < widthOf(l, b, a) {
					points[a] = 0
				}
			}
		}
	case 3:
		points[kemenyOf(l)[0]] = 1
	}
	best := 0
	for a := range names {
		if points[a] > points[best] {
			best = a
		}
	}
	return best
}

// lieOf returns the first voter who gains and the first ballot by which they do, or a nil ballot.
func lieOf(l [][]int, rule int) (int, []int) {
	honest := winnerOf(l, rule)
	for voter := range l {
		for _, ballot := range permutations(upTo(len(l[0]))) {
			lied := slices.Clone(l)
			lied[voter] = ballot
			if w := winnerOf(lied, rule); w != honest && hasBefore(l[voter], w, honest) {
				return voter, ballot
			}
		}
	}
	return 0, nil
}

// badBallots are no ballots.
func badBallots() [][][]int {
	l := [][][]int{
		nil,
		{},
		{nil},
		{{}, {}},
		{{0}, nil},
		{nil, {0}},
		{{1}},
		{{-1}},
		{{0, 1, 2, 3, 4, 5}},
		slices.Repeat([][]int{{0, 1}}, api.MaxVoters+1),
		slices.Repeat([][]int{{0, 1}}, 100000),
		make([][]int, 100000),
		{make([]int, 100000)},
	}
	for _, ballot := range [][]int{nil, {0}, {0, 1}, {0, 1, 1}, {1, 1, 1}, {0, 1, 3}, {1, 2, 3}, {-1, 0, 1}, {0, 1, 2, 3}, {0, 1, 2, 0}, {0, 1, -1 << 63}, {1<<63 - 1, 0, 1}, make([]int, 100000)} {
		for at := range 3 {
			ballots := circle()
			ballots[at] = ballot
			l = append(l, ballots)
		}
	}
	return l
}

// ok fails if there is an error, and else returns what a function returned before it.
func ok[T any](t *testing.T) func(x T, e api.Errno) T {
	t.Helper()
	return func(x T, e api.Errno) T {
		t.Helper()
		if e != api.OK {
			t.Fatal(x, e)
		}
		return x
	}
}

func margins(t *testing.T, l [][]int) [][]int { t.Helper(); return ok[[][]int](t)(vote.Margins(l)) }

func widths(t *testing.T, l [][]int) [][]int { t.Helper(); return ok[[][]int](t)(vote.Widths(l)) }

func best(t *testing.T, l [][]int) int { t.Helper(); return ok[int](t)(vote.Best(l)) }

func win(t *testing.T, l [][]int, rule int) int { t.Helper(); return ok[int](t)(vote.Win(l, rule)) }

func kemeny(t *testing.T, l [][]int) ([]int, int) {
	t.Helper()
	order, sum, e := vote.Kemeny(l)
	if e != api.OK {
		t.Fatal(l, e)
	}
	return order, sum
}

func same(a, b [][]int) bool { return slices.EqualFunc(a, b, slices.Equal) }
