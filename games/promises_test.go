package games_test

import (
	"math/rand"
	"reflect"
	"slices"
	"testing"

	"corrody/api"
	"corrody/games"
)

// P7.7, and P1 of the whole: just one of Core and Refute is OK, and each check accepts what its function returns.
func TestOneOrTheOther(t *testing.T) {
	can, cannot := map[int]int{}, map[int]int{}
	cases(3000, func(c []int, r *rand.Rand) {
		x, paid := core(t, c)
		l, refuted := refute(t, c)
		if paid == refuted || paid && !checkCore(t, c, x) || refuted && !checkRefute(t, c, l) {
			t.Fatal(c, x, paid, l, refuted)
		}
		if paid {
			can[playersOf(c)]++
		} else {
			cannot[playersOf(c)]++
		}
	})
	for n := 2; n <= 4; n++ {
		if can[n] < 40 || cannot[n] < 40 {
			t.Error("too few of a kind", can, cannot)
		}
	}
}

// P7.7: the same for all small costs of two and three players.
func TestOneOrTheOtherOfAll(t *testing.T) {
	for _, n := range []int{2, 3} {
		all := [][]int{{0}}
		for range 1<<n - 1 {
			var longer [][]int
			for _, c := range all {
				for cost := range []int{0, 0, 5, 3}[n] {
					longer = append(longer, append(slices.Clone(c), cost))
				}
			}
			all = longer
		}
		for _, c := range all {
			x, paid := core(t, c)
			l, refuted := refute(t, c)
			if paid == refuted || paid && !inCore(c, x) || refuted && !isRefuted(c, l) {
				t.Fatal(c, x, paid, l, refuted)
			}
		}
	}
}

// P7.7: if CheckRefute accepts a collection, CheckCore accepts no payments.
func TestNoPaymentsIfRefuted(t *testing.T) {
	refuted, paid := 0, 0
	cases(2000, func(c []int, r *rand.Rand) {
		var payments [][]api.Frac
		for _, order := range orders(playersOf(c)) {
			payments = append(payments, whole(join(t, c, order)...))
		}
		x := shapley(t, c)
		payments = append(payments, x, moved(r, x), moved(r, moved(r, x)))
		accepted := slices.ContainsFunc(payments, func(x []api.Frac) bool { return checkCore(t, c, x) })
		if accepted {
			paid++
		}
		for _, l := range collections(playersOf(c)) {
			if checkRefute(t, c, l) {
				refuted++
				if accepted {
					t.Fatal(c, l)
				}
			}
		}
	})
	if refuted < 500 || paid < 500 {
		t.Error("too few of a kind", refuted, paid)
	}
}

// P7.8: players who raise the cost of all sets without both of them equally pay the same.
func TestAlikePlayers(t *testing.T) {
	cases(1500, func(c []int, r *rand.Rand) {
		n := playersOf(c)
		if n == 1 {
			return
		}
		names := r.Perm(n)
		a, b := names[0], names[1]
		alike := slices.Clone(c)
		for set := range alike {
			if in(set, b) && !in(set, a) {
				alike[set] = alike[set-1<<b+1<<a]
			}
		}
		if x := shapley(t, alike); x[a] != x[b] {
			t.Fatal(alike, a, b, x)
		}
	})
}

// P7.8: a player who never changes the cost pays 0.
func TestIdlePlayer(t *testing.T) {
	cases(1500, func(c []int, r *rand.Rand) {
		idle := r.Intn(playersOf(c))
		without := slices.Clone(c)
		for set := range without {
			if in(set, idle) {
				without[set] = without[set-1<<idle]
			}
		}
		if x := shapley(t, without); x[idle] != f(0, 1) {
			t.Fatal(without, idle, x)
		}
	})
}

// P7.8: the Shapley payments of the sum of two games are the sums.
func TestSumOfGames(t *testing.T) {
	cases(1500, func(c []int, r *rand.Rand) {
		other := randomCosts(r, playersOf(c))
		half, sum := slices.Clone(c), make([]int, len(c))
		for set := range c {
			half[set] /= 2
			other[set] /= 2
			sum[set] = half[set] + other[set]
		}
		x, y := shapley(t, half), shapley(t, other)
		for player, a := range shapley(t, sum) {
			if a != frac(plus(rat(x[player]), rat(y[player]))) {
				t.Fatal(half, other, player, a)
			}
		}
	})
}

// P7.9: if costs are concave, Join of every order is in the core, and so is Shapley.
func TestConcaveCosts(t *testing.T) {
	is, isNot := 0, 0
	cases(3000, func(c []int, r *rand.Rand) {
		all := true
		for _, order := range orders(playersOf(c)) {
			all = all && checkCore(t, c, whole(join(t, c, order)...))
		}
		if _, found := concave(t, c); found {
			isNot++
			// Costs that are not concave have an order in which somebody pays too much.
			if all {
				t.Fatal(c)
			}
			return
		}
		is++
		if !all || !checkCore(t, c, shapley(t, c)) {
			t.Fatal(c)
		}
		if _, found := core(t, c); !found {
			t.Fatal(c)
		}
	})
	if is < 500 || isNot < 500 {
		t.Error("too few of a kind", is, isNot)
	}
}

// P7.11: Objects is ErrNone if and only if CheckCore accepts payments that sum to the cost of all.
func TestObjectsOrCore(t *testing.T) {
	in, out := 0, 0
	cases(1500, func(c []int, r *rand.Rand) {
		x := shapley(t, c)
		if pay, found := core(t, c); found && r.Intn(2) == 0 {
			x = pay
		}
		for range 3 {
			if arePayments(x, playersOf(c)) {
				if (objects(t, c, x) == 0) != checkCore(t, c, x) {
					t.Fatal(c, x)
				}
				if checkCore(t, c, x) {
					in++
				} else {
					out++
				}
			}
			x = moved(r, x)
		}
	})
	if in < 500 || out < 500 {
		t.Error("too few of a kind", in, out)
	}
}

// P7.12: renaming players renames Shapley, and does not change whether Core is OK.
func TestRenaming(t *testing.T) {
	cases(600, func(c []int, r *rand.Rand) {
		x := shapley(t, c)
		_, paid := core(t, c)
		for _, names := range orders(playersOf(c)) {
			other := renamedCosts(c, names)
			for player, a := range shapley(t, other) {
				if a != x[slices.Index(names, player)] {
					t.Fatal(c, names, player, a)
				}
			}
			if names[0] == 0 {
				continue
			}
			if _, also := core(t, other); also != paid {
				t.Fatal(c, names, paid)
			}
		}
	})
}

// Rules 2 and 4: the same calls give the same results, change no argument, and share no memory with anything.
func TestMemory(t *testing.T) {
	c, order, l := torn(), []int{2, 0, 1}, []int{2, 5, 3}
	x := whole(2, 2, 1)
	p := []games.Part{part(6, 1, 2), part(3, 1, 2), part(5, 1, 2)}
	free := func(fracs []api.Frac) []int {
		var l []int
		for k, a := range fracs {
			l = append(l, a.Num, a.Den)
			fracs[k] = f(9, 9)
		}
		_ = append(fracs[:len(fracs):cap(fracs)], f(9, 9))
		return l
	}
	calls := []func() []int{
		func() []int { return join(t, c, order) },
		func() []int { return road(t, l) },
		func() []int { return free(shapley(t, c)) },
		func() []int { return free(serial(t, l)) },
		func() []int {
			x, _ := core(t, even())
			return free(x)
		},
		func() []int {
			p, _ := refute(t, c)
			var l []int
			for k, q := range p {
				l = append(l, q.Set, q.Share.Num, q.Share.Den)
				p[k] = games.Part{}
			}
			return l
		},
	}
	for k, call := range calls {
		first := call()
		kept := slices.Clone(first)
		for at := range first {
			first[at] = 99
		}
		_ = append(first[:len(first):cap(first)], 99)
		if again := call(); !slices.Equal(again, kept) || len(kept) == 0 {
			t.Error(k, kept, again)
		}
	}
	for range 2 {
		sets, _ := concave(t, c)
		if sets != [2]int{1, 6} || objects(t, even(), whole(3, 1, 1)) != 1 || !checkCore(t, even(), x) || !checkRefute(t, c, p) {
			t.Error(sets)
		}
	}
	if !slices.Equal(c, torn()) || !slices.Equal(order, []int{2, 0, 1}) || !slices.Equal(l, []int{2, 5, 3}) || !slices.Equal(x, whole(2, 2, 1)) || !reflect.DeepEqual(p, []games.Part{part(6, 1, 2), part(3, 1, 2), part(5, 1, 2)}) {
		t.Error(c, order, l, x, p)
	}
}
