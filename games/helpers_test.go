package games_test

import (
	"math/big"
	"math/rand"
	"slices"
	"testing"

	"corrody/api"
	"corrody/games"
)

// f is a fraction as it is written.
func f(num, den int) api.Frac { return api.Frac{Num: num, Den: den} }

// whole is numbers as fractions.
func whole(l ...int) []api.Frac {
	var fracs []api.Frac
	for _, n := range l {
		fracs = append(fracs, f(n, 1))
	}
	return fracs
}

// part is a Part as it is written.
func part(set, num, den int) games.Part { return games.Part{Set: set, Share: f(num, den)} }

// two is the chapter's first example.
func two() []int { return []int{0, 3, 4, 5} }

// torn is the chapter's second example.
func torn() []int { return []int{0, 2, 2, 3, 2, 3, 3, 6} }

// even is the chapter's fourth example.
func even() []int { return []int{0, 2, 2, 4, 2, 4, 4, 5} }

// alone has a single player.
func alone() []int { return []int{0, 7} }

// free has costs of 0 only.
func free() []int { return make([]int, 16) }

// greatest has costs of 1000 only.
func greatest() []int { return ofSizes(0, 1000, 1000, 1000, 1000) }

// halves has a core of one slice of payments: 1/2 for everyone.
func halves() []int { return ofSizes(0, 1, 1, 2, 2) }

// dear costs more for all than for any two groups of them.
func dear() []int { return ofSizes(0, 0, 0, 0, 1000) }

// paidBack has a player who lessens each cost.
func paidBack() []int { return []int{0, 9, 9, 18, 0, 1, 2, 3} }

func examples() [][]int {
	return [][]int{two(), torn(), even(), alone(), free(), greatest(), halves(), dear(), paidBack()}
}

// ofSizes are costs that depend on how many players a set has.
func ofSizes(l ...int) []int {
	c := make([]int, 1<<(len(l)-1))
	for set := range c {
		c[set] = l[size(set, len(l)-1)]
	}
	return c
}

// in reports whether a player is in a set.
func in(set, player int) bool { return set&(1<<player) != 0 }

// size is how many of n players a set has.
func size(set, n int) int {
	count := 0
	for player := range n {
		if in(set, player) {
			count++
		}
	}
	return count
}

// sumOf is the sum of the numbers of the players in a set.
func sumOf(set int, l []int) int {
	sum := 0
	for player, a := range l {
		if in(set, player) {
			sum += a
		}
	}
	return sum
}

// playersOf is how many players costs are for.
func playersOf(c []int) int {
	n := 0
	for 1<<n < len(c) {
		n++
	}
	return n
}

// orders are all orders of n players.
func orders(n int) [][]int {
	all := [][]int{nil}
	for range n {
		var longer [][]int
		for _, order := range all {
			for player := range n {
				if !slices.Contains(order, player) {
					longer = append(longer, append(slices.Clone(order), player))
				}
			}
		}
		all = longer
	}
	return all
}

// renamed is a set of players after player k is called names[k].
func renamed(set int, names []int) int {
	other := 0
	for player, name := range names {
		if in(set, player) {
			other |= 1 << name
		}
	}
	return other
}

// renamedCosts are costs after player k is called names[k].
func renamedCosts(c, names []int) []int {
	other := make([]int, len(c))
	for set, cost := range c {
		other[renamed(set, names)] = cost
	}
	return other
}

// rat is a fraction as a number of the library.
func rat(a api.Frac) *big.Rat { return big.NewRat(int64(a.Num), int64(a.Den)) }

func ratOf(n int) *big.Rat { return rat(f(n, 1)) }

// frac is a number of the library as a fraction.
func frac(a *big.Rat) api.Frac { return f(int(a.Num().Int64()), int(a.Denom().Int64())) }

func plus(a, b *big.Rat) *big.Rat { return new(big.Rat).Add(a, b) }

func minus(a, b *big.Rat) *big.Rat { return new(big.Rat).Sub(a, b) }

func times(a, b *big.Rat) *big.Rat { return new(big.Rat).Mul(a, b) }

// paidBy is the payment of a set.
func paidBy(set int, x []api.Frac) *big.Rat {
	sum := new(big.Rat)
	for player, a := range x {
		if in(set, player) {
			sum = plus(sum, rat(a))
		}
	}
	return sum
}

// isLowest reports whether a is in lowest terms, with a Den of at least 1.
func isLowest(a api.Frac) bool { return a.Den >= 1 && frac(rat(a)) == a }

// arePayments reports whether x is payments of n players, by the definition.
func arePayments(x []api.Frac, n int) bool {
	for _, a := range x {
		if !isLowest(a) || a.Den > 24 || a.Num < -100000 || a.Num > 100000 {
			return false
		}
	}
	return len(x) == n
}

// inCore reports whether x is payments in the core, by the definition.
func inCore(c []int, x []api.Frac) bool {
	if !arePayments(x, playersOf(c)) || paidBy(len(c)-1, x).Cmp(ratOf(c[len(c)-1])) != 0 {
		return false
	}
	for set, cost := range c {
		if paidBy(set, x).Cmp(ratOf(cost)) > 0 {
			return false
		}
	}
	return true
}

// isCollection reports whether l is a collection for n players, by the definition.
func isCollection(l []games.Part, n int) bool {
	for k, p := range l {
		if p.Set < 1 || p.Set >= 1<<n || p.Share.Num < 1 || p.Share.Den > 12 || !isLowest(p.Share) {
			return false
		}
		for _, q := range l[:k] {
			if p.Set == q.Set {
				return false
			}
		}
	}
	for player := range n {
		sum := new(big.Rat)
		for _, p := range l {
			if in(p.Set, player) {
				sum = plus(sum, rat(p.Share))
			}
		}
		if sum.Cmp(ratOf(1)) != 0 {
			return false
		}
	}
	return true
}

// costOf is the sum of Share times cost.
func costOf(c []int, l []games.Part) *big.Rat {
	sum := new(big.Rat)
	for _, p := range l {
		sum = plus(sum, times(rat(p.Share), ratOf(c[p.Set])))
	}
	return sum
}

// isRefuted reports whether l is a collection that refutes c, by the definition.
func isRefuted(c []int, l []games.Part) bool {
	return isCollection(l, playersOf(c)) && costOf(c, l).Cmp(ratOf(c[len(c)-1])) < 0
}

// isConcave reports whether costs are concave: whether no player's rise is greater if one more is there before.
func isConcave(c []int) bool {
	for set := range c {
		for a := range playersOf(c) {
			for b := range playersOf(c) {
				more := set | 1<<b
				if a != b && !in(set, a) && !in(set, b) && c[more|1<<a]-c[more] > c[set|1<<a]-c[set] {
					return false
				}
			}
		}
	}
	return true
}

// kinds are, for each number of players, the collections of proper sets from which no set can be left out, one of each kind. Renaming players gives the others.
func kinds() map[int][][]games.Part {
	return map[int][][]games.Part{
		2: {{part(1, 1, 1), part(2, 1, 1)}},
		3: {
			{part(1, 1, 1), part(2, 1, 1), part(4, 1, 1)},
			{part(3, 1, 1), part(4, 1, 1)},
			{part(3, 1, 2), part(5, 1, 2), part(6, 1, 2)},
		},
		4: {
			{part(1, 1, 1), part(2, 1, 1), part(4, 1, 1), part(8, 1, 1)},
			{part(3, 1, 1), part(4, 1, 1), part(8, 1, 1)},
			{part(3, 1, 1), part(12, 1, 1)},
			{part(7, 1, 1), part(8, 1, 1)},
			{part(3, 1, 2), part(5, 1, 2), part(6, 1, 2), part(8, 1, 1)},
			{part(7, 1, 2), part(11, 1, 2), part(12, 1, 2)},
			{part(3, 1, 3), part(5, 1, 3), part(9, 1, 3), part(14, 2, 3)},
			{part(7, 1, 2), part(9, 1, 2), part(10, 1, 2), part(4, 1, 2)},
			{part(7, 1, 3), part(11, 1, 3), part(13, 1, 3), part(14, 1, 3)},
		},
	}
}

// collections are all collections for n players that are of a kind, with the sets rising.
func collections(n int) [][]games.Part {
	var all [][]games.Part
	for _, kind := range kinds()[n] {
		for _, names := range orders(n) {
			var l []games.Part
			for _, p := range kind {
				l = append(l, games.Part{Set: renamed(p.Set, names), Share: p.Share})
			}
			l = bySet(l)
			if !slices.ContainsFunc(all, func(other []games.Part) bool { return slices.Equal(l, other) }) {
				all = append(all, l)
			}
		}
	}
	return all
}

// bySet is a collection with the sets rising.
func bySet(l []games.Part) []games.Part {
	other := slices.Clone(l)
	slices.SortFunc(other, func(p, q games.Part) int { return p.Set - q.Set })
	return other
}

// mixed is a collection of two others, of which one has weight / 12 of its Shares; nil, if a Den is too great.
func mixed(l, other []games.Part, weight int) []games.Part {
	shares := map[int]*big.Rat{}
	for _, p := range l {
		shares[p.Set] = times(rat(p.Share), rat(f(weight, 12)))
	}
	for _, p := range other {
		share := times(rat(p.Share), rat(f(12-weight, 12)))
		if shares[p.Set] != nil {
			share = plus(share, shares[p.Set])
		}
		shares[p.Set] = share
	}
	var mix []games.Part
	for set, share := range shares {
		if share.Denom().Int64() > 12 {
			return nil
		}
		if share.Sign() > 0 {
			mix = append(mix, games.Part{Set: set, Share: frac(share)})
		}
	}
	return bySet(mix)
}

// randomLengths are the lengths of n players.
func randomLengths(r *rand.Rand, n, most int) []int {
	var l []int
	for range n {
		l = append(l, r.Intn(most+1))
	}
	return l
}

// sumOfRoads are the sums of the costs of some roads, which are concave.
func sumOfRoads(r *rand.Rand, n, most int) []int {
	c := make([]int, 1<<n)
	for range 1 + r.Intn(4) {
		l := randomLengths(r, n, most/4)
		for set := range c {
			longest := 0
			for player, length := range l {
				if in(set, player) {
					longest = max(longest, length)
				}
			}
			c[set] += longest
		}
	}
	return c
}

// nearCore are costs that differ little from what sets pay in payments of halves.
func nearCore(r *rand.Rand, n, most int) []int {
	pay := randomLengths(r, n, most/2)
	noise := r.Intn(3)
	c := make([]int, 1<<n)
	for set := 1; set < len(c); set++ {
		c[set] = min(1000, max(0, (sumOf(set, pay)+1)/2+r.Intn(noise+1)-r.Intn(2)*r.Intn(2)))
	}
	return c
}

// randomCosts are costs for n players. Costs for which the core is nearly empty or nearly not, and concave ones, are frequent.
func randomCosts(r *rand.Rand, n int) []int {
	most := []int{4, 12, 100, 1000}[r.Intn(4)]
	switch r.Intn(4) {
	case 0:
		return nearCore(r, n, most)
	case 1:
		return sumOfRoads(r, n, most)
	case 2:
		c := sumOfRoads(r, n, most)
		c[1+r.Intn(len(c)-1)] = r.Intn(most + 1)
		return c
	}
	c := randomLengths(r, 1<<n, most)
	c[0] = 0
	return c
}

// cases calls f with the examples and with count costs from a fixed sequence.
func cases(count int, f func(c []int, r *rand.Rand)) {
	r := rand.New(rand.NewSource(1))
	for _, c := range examples() {
		f(c, r)
	}
	for range count {
		f(randomCosts(r, []int{1, 2, 3, 3, 4, 4, 4}[r.Intn(7)]), r)
	}
}

// core fails if there is another error than ErrNone, and else returns Core and whether there are payments.
func core(t *testing.T, c []int) ([]api.Frac, bool) {
	t.Helper()
	x, e := games.Core(c)
	if e != api.OK && (e != api.ErrNone || len(x) != 0) {
		t.Fatal(c, x, e)
	}
	return x, e == api.OK
}

// refute fails if there is another error than ErrNone, and else returns Refute and whether there is a collection.
func refute(t *testing.T, c []int) ([]games.Part, bool) {
	t.Helper()
	l, e := games.Refute(c)
	if e != api.OK && (e != api.ErrNone || len(l) != 0) {
		t.Fatal(c, l, e)
	}
	return l, e == api.OK
}

// concave fails if there is another error than ErrNone, and else returns Concave and whether there are sets.
func concave(t *testing.T, c []int) ([2]int, bool) {
	t.Helper()
	a, b, e := games.Concave(c)
	if e != api.OK && (e != api.ErrNone || a != 0 || b != 0) {
		t.Fatal(c, a, b, e)
	}
	return [2]int{a, b}, e == api.OK
}

// objects fails if there is another error than ErrNone, and else returns Objects, or 0.
func objects(t *testing.T, c []int, x []api.Frac) int {
	t.Helper()
	set, e := games.Objects(c, x)
	if e != api.OK && e != api.ErrNone || (e == api.OK) != (set != 0) {
		t.Fatal(c, x, set, e)
	}
	return set
}

// ok fails if there is an error, and else returns what a function returned before it.
func ok[T any](t *testing.T) func(x T, e api.Errno) T {
	t.Helper()
	return func(x T, e api.Errno) T {
		t.Helper()
		if e != api.OK {
			t.Fatal(x, e)
		}
		return x
	}
}

func checkCore(t *testing.T, c []int, x []api.Frac) bool {
	t.Helper()
	return ok[bool](t)(games.CheckCore(c, x))
}

func checkRefute(t *testing.T, c []int, l []games.Part) bool {
	t.Helper()
	return ok[bool](t)(games.CheckRefute(c, l))
}

func join(t *testing.T, c, order []int) []int {
	t.Helper()
	return ok[[]int](t)(games.Join(c, order))
}

func shapley(t *testing.T, c []int) []api.Frac {
	t.Helper()
	return ok[[]api.Frac](t)(games.Shapley(c))
}

func road(t *testing.T, l []int) []int {
	t.Helper()
	return ok[[]int](t)(games.Road(l))
}

func serial(t *testing.T, l []int) []api.Frac {
	t.Helper()
	return ok[[]api.Frac](t)(games.Serial(l))
}

// badNumbers are neither costs nor lengths.
func badNumbers() []int { return []int{-1, 1001, 1 << 32, 1<<63 - 1, -1 << 63} }

// badCosts are no costs.
func badCosts() [][]int {
	all := [][]int{nil, {}, {0}, {1, 1}, {-1, 1}, {1<<63 - 1, 1}, ofSizes(0, 1, 1, 1, 1, 1), make([]int, 1<<16)}
	for length := 3; length < 70; length++ {
		if length != 4 && length != 8 && length != 16 {
			all = append(all, make([]int, length))
		}
	}
	for n := 1; n <= 4; n++ {
		for at := range 1 << n {
			for _, bad := range append(badNumbers(), 1) {
				c := make([]int, 1<<n)
				c[at] = bad
				if at == 0 || bad != 1 {
					all = append(all, c)
				}
			}
		}
	}
	return all
}

// badFracs are neither payments nor Shares.
func badFracs() []api.Frac {
	return []api.Frac{
		f(0, 0), f(1, 0), f(-1, 0), f(0, 2), f(0, 24), f(0, -1), f(2, 2), f(2, 4), f(12, 24), f(-2, 4), f(1, -1), f(-1, -1), f(-1, -2), f(1, 25), f(25, 25),
		f(100001, 1), f(-100001, 1), f(100001, 24), f(-100001, 24), f(1<<63-1, 1), f(-1<<63, 1), f(1, 1<<63-1), f(1, -1<<63), f(-1<<63, -1<<63), f(-1<<63, -1), f(1<<63-1, 1<<63-1), f(0, 1<<63-1), f(0, -1<<63), f(1<<63-1, 0), f(-1<<63, 0),
	}
}
