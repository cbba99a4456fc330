package route_test

import (
	"math/rand"
	"reflect"
	"slices"
	"testing"

	"corrody/api"
	"corrody/route"
)

// P5.7: no moats that fit have a bound above the cost of a tree.
func TestBounds(t *testing.T) {
	judged, tight := 0, 0
	cases(600, 8, func(m route.Map, r *rand.Rand) {
		if len(m.Roads) > 8 {
			return
		}
		stops := someStops(m, r)
		lists := [][]route.Moat{someMoats(m, stops, r), someMoats(m, stops, r)}
		if l, e := route.Moats(m, stops); e == api.OK {
			lists = append(lists, l)
		}
		for _, l := range lists {
			sum, fit := checkMoats(t, m, stops, l)
			if !fit || sum == 0 {
				continue
			}
			for set := range 1 << len(m.Roads) {
				cost, right := checkTree(t, m, stops, someRoads(m, set))
				if !right {
					continue
				}
				judged++
				if sum > 2*cost {
					t.Fatal(m, stops, l, set)
				}
				if sum == 2*cost {
					tight++
				}
			}
		}
	})
	if judged < 1000 || tight < 100 {
		t.Error("too few of a kind", judged, tight)
	}
}

// P5.8: CheckMoats accepts Moats, and they sum to at least the cost of Tree.
func TestMoatsAndTree(t *testing.T) {
	found, none := 0, 0
	cases(1500, 16, func(m route.Map, r *rand.Rand) {
		stops := someStops(m, r)
		l, e := route.Moats(m, stops)
		_, cost, is := treeOf(t, m, stops)
		if !is {
			none++
			if len(l) != 0 || e != api.ErrNone {
				t.Fatal(m, stops, l, e)
			}
			return
		}
		found++
		if sum, fit := checkMoats(t, m, stops, l); e != api.OK || !fit || sum < cost {
			t.Fatal(m, stops, l, e, sum, cost)
		}
	})
	if found < 300 || none < 300 {
		t.Error("too few of a kind", found, none)
	}
}

// P5.9: for two stops Tree costs their distance, for all stops what Spanning costs.
func TestTwoStopsAndAll(t *testing.T) {
	cases(800, 16, func(m route.Map, r *rand.Rand) {
		for a, row := range distances(t, m) {
			for b, far := range row {
				_, cost, found := treeOf(t, m, 1<<a|1<<b)
				if found != (far >= 0) || found && cost != far {
					t.Fatal(m, a, b, cost, far)
				}
			}
		}
		all := 1<<m.N - 1
		_, cost, found := treeOf(t, m, all)
		span, e := route.Spanning(m)
		if (e == api.OK) != found {
			t.Fatal(m, span, e)
		}
		if spent, right := checkTree(t, m, all, span); found && (!right || spent != cost) {
			t.Fatal(m, span, spent, cost)
		}
	})
}

// P5.10: more stops cost no less, and no more than two sets with a common stop that they are made of.
func TestMoreStops(t *testing.T) {
	less, sums := 0, 0
	cases(800, 16, func(m route.Map, r *rand.Rand) {
		for range 4 {
			one, two := someStops(m, r), someStops(m, r)
			_, both, found := treeOf(t, m, one|two)
			_, first, a := treeOf(t, m, one)
			_, second, b := treeOf(t, m, two)
			if found && (!a || !b || both < first || both < second) {
				t.Fatal(m, one, two, both, first, second)
			}
			if found && both > first && both > second {
				less++
			}
			if one&two == 0 || !a || !b {
				continue
			}
			sums++
			if !found || both > first+second {
				t.Fatal(m, one, two, both, first, second)
			}
		}
	})
	if less < 300 || sums < 300 {
		t.Error("too few of a kind", less, sums)
	}
}

// alone is the cost of the least tree of some stops alone, joined at their distances: always the nearest stop next.
func alone(far [][]int, stops []int) int {
	joined, cost := stops[:1:1], 0
	for len(joined) < len(stops) {
		nearest, least := -1, -1
		for _, a := range joined {
			for _, b := range stops {
				if !slices.Contains(joined, b) && (nearest < 0 || far[a][b] < least) {
					nearest, least = b, far[a][b]
				}
			}
		}
		joined = append(joined, nearest)
		cost += least
	}
	return cost
}

// P5.11: Tree costs at least half of the least tree of its stops alone, and no more than that.
func TestStopsAlone(t *testing.T) {
	found, dearer := 0, 0
	cases(1500, 16, func(m route.Map, r *rand.Rand) {
		set := someStops(m, r)
		_, cost, is := treeOf(t, m, set)
		if !is {
			return
		}
		found++
		var stops []int
		for stop := range m.N {
			if set&(1<<stop) != 0 {
				stops = append(stops, stop)
			}
		}
		least := alone(distances(t, m), stops)
		if 2*cost < least || cost > least {
			t.Fatal(m, set, cost, least)
		}
		if cost < least {
			dearer++
		}
	})
	if found < 400 || dearer < 20 {
		t.Error("too few of a kind", found, dearer)
	}
}

// P5.12: CheckWay accepts Way from a stop with its Potentials.
func TestWaysAndPotentials(t *testing.T) {
	found := 0
	cases(1000, 16, func(m route.Map, r *rand.Rand) {
		for a := range m.N {
			p, e := route.Potentials(m, a)
			if e == api.ErrNone {
				continue
			}
			for b := range m.N {
				found++
				if l := way(t, m, a, b); e != api.OK || !checkWay(t, m, l, p) {
					t.Fatal(m, a, b, l, p, e)
				}
			}
		}
	})
	if found < 3000 {
		t.Error("too few ways", found)
	}
}

// All functions but those that say which one is first do the same for roads in another order and the other way round.
func TestOrderOfRoads(t *testing.T) {
	cases(400, 16, func(m route.Map, r *rand.Rand) {
		other := clone(m)
		r.Shuffle(len(other.Roads), func(a, b int) {
			other.Roads[a], other.Roads[b] = other.Roads[b], other.Roads[a]
		})
		for at, road := range other.Roads {
			if r.Intn(2) == 0 {
				other.Roads[at] = route.Road{A: road.B, B: road.A, Cost: road.Cost}
			}
		}
		far := distances(t, m)
		if !reflect.DeepEqual(distances(t, other), far) {
			t.Fatal(m, other)
		}
		for b, cost := range far[0] {
			if cost >= 0 && !slices.Equal(way(t, m, 0, b), way(t, other, 0, b)) {
				t.Fatal(m, other, b)
			}
		}
		stops := someStops(m, r)
		_, cost, found := treeOf(t, m, stops)
		if _, same, is := treeOf(t, other, stops); same != cost || is != found {
			t.Fatal(m, other, stops)
		}
		l, _ := route.Moats(m, stops)
		sum, fit := checkMoats(t, m, stops, l)
		if same, is := checkMoats(t, other, stops, l); same != sum || is != fit {
			t.Fatal(m, other, stops, l)
		}
	})
}

// Rules 2 and 4: the same calls give the same results, change no argument, and share no memory with anything.
func TestMemory(t *testing.T) {
	m := star()
	calls := []func() [][]int{
		func() [][]int { return distances(t, m) },
		func() [][]int { return [][]int{way(t, m, 0, 2)} },
		func() [][]int { return [][]int{ok[[]int](t)(route.Potentials(m, 1))} },
		func() [][]int { return [][]int{ok[[]int](t)(route.Tree(m, 7))} },
		func() [][]int { return [][]int{ok[[]int](t)(route.Spanning(m))} },
		func() [][]int {
			l := ok[[]route.Moat](t)(route.Moats(m, 7))
			var rows [][]int
			for at, moat := range l {
				rows = append(rows, []int{moat.Set, moat.Width})
				l[at] = route.Moat{}
			}
			return rows
		},
	}
	for k, call := range calls {
		first := call()
		var kept [][]int
		for _, row := range first {
			kept = append(kept, slices.Clone(row))
		}
		for at, row := range first {
			for x := range row {
				row[x] = 99
			}
			_ = append(row[:len(row):cap(row)], 99)
			for _, other := range first[at+1:] {
				if slices.Contains(other, 99) {
					t.Error(k, "rows that share memory")
				}
			}
		}
		if again := call(); !reflect.DeepEqual(again, kept) || len(kept) == 0 || len(kept[0]) == 0 {
			t.Error(k, kept, again)
		}
	}
	l, p, tree, moats := []int{0, 3, 2}, []int{0, 3, 4, 2}, []int{0, 1, 2}, []route.Moat{{Set: 4, Width: 4}, {Set: 1, Width: 3}}
	for range 2 {
		cost, right := checkTree(t, m, 7, tree)
		if sum, fit := checkMoats(t, m, 7, moats); !checkWay(t, m, l, p) || !right || cost != 6 || !fit || sum != 7 {
			t.Error(cost, right, sum, fit)
		}
	}
	if !reflect.DeepEqual(m, star()) || !slices.Equal(l, []int{0, 3, 2}) || !slices.Equal(p, []int{0, 3, 4, 2}) || !slices.Equal(tree, []int{0, 1, 2}) {
		t.Error(m, l, p, tree)
	}
	if !slices.Equal(moats, []route.Moat{{Set: 4, Width: 4}, {Set: 1, Width: 3}}) {
		t.Error(moats)
	}
}

// Rule 4: a way and potentials may share memory, and no roads may be nil or empty.
func TestSharedArguments(t *testing.T) {
	m := mapOf(3, [3]int{0, 1, 1}, [3]int{1, 2, 1})
	l := []int{0, 1, 2}
	if !checkWay(t, m, l, l) || !slices.Equal(l, []int{0, 1, 2}) {
		t.Error(l)
	}
	for _, roads := range [][]route.Road{nil, {}} {
		m := route.Map{N: 3, Roads: roads}
		tree, e := route.Tree(m, 4)
		if far := distances(t, m); len(tree) != 0 || e != api.OK || far[1][2] != -1 || far[2][2] != 0 {
			t.Error(tree, e, far)
		}
	}
}
