package turns_test

import (
	"math/rand"
	"slices"
	"testing"

	"corrody/api"
	"corrody/turns"
)

// example is the plan of the chapter's first example.
func example() turns.Plan {
	return turns.Plan{Hands: [][]int{{0, 1}, {1, 0}}, Shifts: [][]int{{1, 0}, {0, 1}}, Places: []int{1, 1}}
}

// strangers is the plan of the chapter's second example.
func strangers() turns.Plan {
	return turns.Plan{Hands: [][]int{nil}, Shifts: [][]int{nil}, Places: []int{1}}
}

// latin is a plan with three stable matchings in a chain: what each hand likes, the shifts like the other way round.
func latin() turns.Plan {
	return turns.Plan{
		Hands:  [][]int{{0, 1, 2}, {1, 2, 0}, {2, 0, 1}},
		Shifts: [][]int{{1, 2, 0}, {2, 0, 1}, {0, 1, 2}},
		Places: []int{1, 1, 1},
	}
}

// twice is two of the first example side by side: its stable matchings form a square.
func twice() turns.Plan {
	return turns.Plan{
		Hands:  [][]int{{0, 1}, {1, 0}, {2, 3}, {3, 2}},
		Shifts: [][]int{{1, 0}, {0, 1}, {3, 2}, {2, 3}},
		Places: []int{1, 1, 1, 1},
	}
}

// roomy is a plan of shifts with two places each, whose stable matchings form a chain; hand 4 is on no list.
func roomy() turns.Plan {
	return turns.Plan{
		Hands:  [][]int{{0, 1}, {0, 1}, {1, 0}, {1, 0}, {0}},
		Shifts: [][]int{{3, 2, 1, 0}, {0, 1, 2, 3}},
		Places: []int{2, 2},
	}
}

// randomPlan returns a plan of any shape. Full lists are frequent, as they make many stable matchings.
func randomPlan(r *rand.Rand) turns.Plan {
	hands, shifts := 1+r.Intn(api.MaxHands), 1+r.Intn(api.MaxShifts)
	full, most := r.Intn(2) == 0, 1+r.Intn(3)
	if r.Intn(3) == 0 {
		hands, shifts, full, most = 4, 4, true, 1
	}
	p := turns.Plan{Hands: make([][]int, hands), Shifts: make([][]int, shifts), Places: make([]int, shifts)}
	for h := range p.Hands {
		p.Hands[h] = randomList(r, shifts, full)
	}
	for s := range p.Shifts {
		p.Shifts[s] = randomList(r, hands, full)
		p.Places[s] = 1 + r.Intn(most)
	}
	return p
}

func randomList(r *rand.Rand, n int, full bool) []int {
	list := r.Perm(n)
	if full {
		return list
	}
	return list[:r.Intn(n+1)]
}

// cases calls f with count plans from a fixed sequence.
func cases(count int, f func(p turns.Plan, r *rand.Rand)) {
	r := rand.New(rand.NewSource(1))
	for range count {
		f(randomPlan(r), r)
	}
}

// likes is how much a list likes x: 0 what is not in it, more what comes earlier.
func likes(list []int, x int) int {
	for at := range list {
		if list[at] == x {
			return len(list) - at
		}
	}
	return 0
}

// matchings returns all matchings of p, rising, by trying all slices.
func matchings(p turns.Plan) [][]int {
	var l [][]int
	m := slices.Repeat([]int{-1}, len(p.Hands))
	for {
		if isMatching(p, m) {
			l = append(l, slices.Clone(m))
		}
		h := len(m) - 1
		for h >= 0 && m[h] == len(p.Shifts)-1 {
			m[h] = -1
			h--
		}
		if h < 0 {
			return l
		}
		m[h]++
	}
}

func isMatching(p turns.Plan, m []int) bool {
	taken := make([]int, len(p.Shifts))
	for h, s := range m {
		if s < 0 {
			continue
		}
		taken[s]++
		if likes(p.Hands[h], s) == 0 || likes(p.Shifts[s], h) == 0 || taken[s] > p.Places[s] {
			return false
		}
	}
	return true
}

// blocking returns the pairs that block m, by the definition.
func blocking(p turns.Plan, m []int) [][2]int {
	var l [][2]int
	for h := range p.Hands {
		for s := range p.Shifts {
			if likes(p.Hands[h], s) == 0 || likes(p.Shifts[s], h) == 0 || m[h] == s {
				continue
			}
			taken, lessLiked := 0, false
			for other, had := range m {
				if had == s {
					taken++
					lessLiked = lessLiked || likes(p.Shifts[s], other) < likes(p.Shifts[s], h)
				}
			}
			if likes(p.Hands[h], s) > likes(p.Hands[h], m[h]) && (taken < p.Places[s] || lessLiked) {
				l = append(l, [2]int{h, s})
			}
		}
	}
	return l
}

// stables returns the stable matchings of p, by the definition.
func stables(p turns.Plan) [][]int {
	return slices.DeleteFunc(matchings(p), func(m []int) bool { return len(blocking(p, m)) > 0 })
}

// above reports whether a is at least as good for the hands as b.
func above(p turns.Plan, a, b []int) bool {
	for h := range a {
		if likes(p.Hands[h], a[h]) < likes(p.Hands[h], b[h]) {
			return false
		}
	}
	return true
}

// held returns how much shift s likes each of the hands that it has in m, by the list, the best first, and 0 for each free place.
func held(list, m []int, s, places int) []int {
	l := make([]int, places)
	at := 0
	for h, had := range m {
		if had == s {
			l[at] = likes(list, h)
			at++
		}
	}
	slices.Sort(l)
	slices.Reverse(l)
	return l
}

// lists returns all lists of some of n things, each at most once, compared from the front.
func lists(n int) [][]int {
	var l [][]int
	var add func(list []int)
	add = func(list []int) {
		l = append(l, list)
		for x := range n {
			if !slices.Contains(list, x) {
				add(append(slices.Clone(list), x))
			}
		}
	}
	add(nil)
	return l
}

// badPlans are no plans.
func badPlans() []turns.Plan {
	l := []turns.Plan{
		{},
		{Hands: [][]int{{0}}, Shifts: [][]int{{0}}},
		{Hands: [][]int{{0}}, Places: []int{1}},
		{Hands: [][]int{{}}},
		{Shifts: [][]int{{0}}, Places: []int{1}},
		{Shifts: [][]int{{}}, Places: []int{1}},
		{Hands: make([][]int, api.MaxHands+1), Shifts: make([][]int, 1), Places: []int{1}},
		{Hands: make([][]int, 1), Shifts: make([][]int, api.MaxShifts+1), Places: []int{1, 1, 1, 1, 1}},
		{Hands: make([][]int, 100000), Shifts: make([][]int, 100000), Places: make([]int, 100000)},
	}
	for _, places := range [][]int{nil, {1}, {1, 1, 1}, {0, 1}, {1, 4}, {1, -1}, {-1 << 63, 1}, {1, 1<<63 - 1}, make([]int, 100000)} {
		p := example()
		p.Places = places
		l = append(l, p)
	}
	for _, list := range [][]int{{2}, {-1}, {0, 0}, {1, 0, 1}, {0, 1, 2}, {-1 << 63}, {1<<63 - 1, 0}, make([]int, 100000)} {
		for at := range 2 {
			p, q := example(), example()
			p.Hands[at], q.Shifts[at] = list, list
			l = append(l, p, q)
		}
	}
	return l
}

// badMatchings are no matchings of the first example, in which hand 1 does not list shift 0 and shift 1 does not list hand 0, but for that.
func badMatchings() (turns.Plan, [][]int) {
	p := turns.Plan{Hands: [][]int{{0, 1}, {1}}, Shifts: [][]int{{1, 0}, {1}}, Places: []int{1, 1}}
	return p, [][]int{nil, {}, {0}, {0, 1, -1}, {-2, 1}, {0, 2}, {1, -1}, {0, 0}, {-1, 0}, {-1 << 63, 1}, {0, 1<<63 - 1}, make([]int, 100000)}
}

// got returns a function's matching, and fails if there is an error.
func got(t *testing.T, p turns.Plan, f func(turns.Plan) ([]int, api.Errno)) []int {
	t.Helper()
	m, e := f(p)
	if e != api.OK {
		t.Fatal(p, m, e)
	}
	return m
}

func allOf(t *testing.T, p turns.Plan) [][]int {
	t.Helper()
	l, e := turns.Stable(p)
	if e != api.OK || len(l) == 0 {
		t.Fatal(p, l, e)
	}
	return l
}

func middle(k int) func(turns.Plan) ([]int, api.Errno) {
	return func(p turns.Plan) ([]int, api.Errno) { return turns.Middle(p, k) }
}

func join(a, b []int) func(turns.Plan) ([]int, api.Errno) {
	return func(p turns.Plan) ([]int, api.Errno) { return turns.Join(p, a, b) }
}

func meet(a, b []int) func(turns.Plan) ([]int, api.Errno) {
	return func(p turns.Plan) ([]int, api.Errno) { return turns.Meet(p, a, b) }
}

func sameMatchings(a, b [][]int) bool {
	return slices.EqualFunc(a, b, slices.Equal)
}
