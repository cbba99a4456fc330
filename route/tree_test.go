package route_test

import (
	"math/rand"
	"slices"
	"testing"

	"corrody/api"
	"corrody/route"
)

// P5.4: Tree.
func TestTreeExamples(t *testing.T) {
	for _, c := range []struct {
		m     route.Map
		stops int
		want  []int
		cost  int
	}{
		{star(), 7, []int{0, 1, 2}, 6},
		{star(), 15, []int{0, 1, 2}, 6},
		{star(), 3, []int{3}, 3},
		{star(), 5, []int{0, 2}, 4},
		{star(), 8, nil, 0},
		{star(), 1, nil, 0},
		{single(), 1, nil, 0},
		// Of the cheapest roads the first one.
		{twins(), 3, []int{1}, 2},
		{islands(), 5, []int{0}, 1},
		{islands(), 18, []int{1}, 5},
		{islands(), 8, nil, 0},
		// Over 2 or over 1, at the same cost.
		{square(), 9, []int{0, 1}, 3},
		{square(), 11, []int{2, 3}, 3},
		// Any two of three roads.
		{square(), 19, []int{2, 4}, 2},
		{long(), 1<<8 - 1, []int{0, 1, 2, 3, 4, 5, 6}, 350},
		{long(), 129, []int{0, 1, 2, 3, 4, 5, 6}, 350},
		{long(), 24, []int{3}, 50},
		// Fewer roads come before a first road that is less.
		{mapOf(3, [3]int{0, 1, 1}, [3]int{1, 2, 1}, [3]int{0, 2, 2}), 5, []int{2}, 2},
		// Less cost comes before fewer roads.
		{mapOf(3, [3]int{0, 2, 3}, [3]int{0, 1, 1}, [3]int{1, 2, 1}), 5, []int{1, 2}, 2},
		// The roads of a tree are joined in any order.
		{mapOf(4, [3]int{0, 1, 1}, [3]int{2, 3, 1}, [3]int{1, 2, 1}), 15, []int{0, 1, 2}, 3},
	} {
		tree, e := route.Tree(c.m, c.stops)
		if cost, right := checkTree(t, c.m, c.stops, tree); !slices.Equal(tree, c.want) || e != api.OK || !right || cost != c.cost {
			t.Error(c.m, c.stops, tree, e, cost, right)
		}
	}
	for _, stops := range []int{3, 6, 9, 17, 26, 31} {
		if tree, e := route.Tree(islands(), stops); len(tree) != 0 || e != api.ErrNone {
			t.Error(stops, tree, e)
		}
	}
}

// P5.4: Tree, by trying all sets of roads.
func TestTreeOfMany(t *testing.T) {
	none, largest := 0, 0
	cases(400, 9, func(m route.Map, r *rand.Rand) {
		if len(m.Roads) > 9 {
			return
		}
		for range 4 {
			stops := someStops(m, r)
			tree, e := route.Tree(m, stops)
			want, _, found := bestTree(m, stops)
			if !found {
				none++
				if len(tree) != 0 || e != api.ErrNone {
					t.Fatal(m, stops, tree, e)
				}
				continue
			}
			largest = max(largest, len(tree))
			if !slices.Equal(tree, want) || e != api.OK {
				t.Fatal(m, stops, tree, e, want)
			}
		}
	})
	if none < 300 || largest < 6 {
		t.Error("too few of a kind", none, largest)
	}
}

// P5.4: Tree of maps with all roads that there may be.
func TestTreeOfFullMaps(t *testing.T) {
	full := wheel()
	cheap := clone(full)
	for at := range cheap.Roads {
		cheap.Roads[at].Cost = 1
	}
	for _, m := range []route.Map{full, cheap} {
		for _, stops := range []int{1<<8 - 1, 1<<7 - 1, 0b0010101, 0b1001} {
			want, _, _ := bestTree(m, stops)
			if tree, _, found := treeOf(t, m, stops); !found || !slices.Equal(tree, want) {
				t.Error(m, stops, tree, want)
			}
		}
	}
}

// P5.4: CheckTree.
func TestCheckTreeExamples(t *testing.T) {
	for _, c := range []struct {
		m     route.Map
		stops int
		tree  []int
		cost  int
		right bool
	}{
		{star(), 7, []int{0, 1, 2}, 6, true},
		// Trees that do not have the least cost.
		{star(), 7, []int{0, 2, 3}, 7, true},
		{star(), 7, []int{1, 2, 3}, 7, true},
		{star(), 3, []int{0, 1, 2}, 6, true},
		{star(), 8, []int{0}, 2, true},
		{star(), 8, []int{0, 3}, 5, true},
		// A single stop needs no road, and roads must have it.
		{star(), 4, nil, 0, true},
		{star(), 4, []int{}, 0, true},
		{star(), 4, []int{2}, 2, true},
		{star(), 4, []int{0}, 2, false},
		{star(), 4, []int{0, 3}, 5, false},
		{star(), 3, nil, 0, false},
		{single(), 1, nil, 0, true},
		{single(), 1, []int{0}, 0, false},
		// A stop is missing.
		{star(), 7, []int{0, 1}, 4, false},
		{star(), 7, []int{3}, 3, false},
		// A cycle.
		{star(), 3, []int{0, 1, 3}, 7, false},
		{star(), 7, []int{0, 1, 2, 3}, 9, false},
		{twins(), 3, []int{1, 2}, 4, false},
		{twins(), 3, []int{3}, 3, true},
		{twins(), 1, []int{0}, 4, true},
		// Two parts, the second of which has no stop that is asked for.
		{mapOf(4, [3]int{0, 1, 1}, [3]int{2, 3, 1}), 3, []int{0, 1}, 2, false},
		{mapOf(4, [3]int{0, 1, 1}, [3]int{2, 3, 1}), 12, []int{0, 1}, 2, false},
		{mapOf(4, [3]int{0, 1, 1}, [3]int{2, 3, 1}), 15, []int{0, 1}, 2, false},
		{mapOf(4, [3]int{0, 1, 1}, [3]int{2, 3, 1}), 1, []int{1}, 1, false},
		{mapOf(4, [3]int{0, 1, 1}, [3]int{2, 3, 1}, [3]int{3, 0, 1}), 6, []int{0, 1, 2}, 3, true},
		// What are no rising indices of roads.
		{star(), 7, []int{2, 1, 0}, 6, false},
		{star(), 7, []int{0, 2, 1}, 6, false},
		{star(), 7, []int{0, 1, 2, 2}, 6, false},
		{star(), 3, []int{3, 3}, 3, false},
		{star(), 3, []int{3, 4}, 3, false},
		{star(), 3, []int{-1, 3}, 3, false},
		{star(), 3, []int{4}, 0, false},
		{star(), 1, []int{-1}, 0, false},
		{star(), 1, []int{-1 << 63}, 0, false},
		{star(), 1, []int{1<<63 - 1}, 0, false},
		{star(), 1, make([]int, 100000), 0, false},
		{long(), 129, []int{0, 1, 2, 3, 4, 5, 6}, 350, true},
		{long(), 129, []int{0, 1, 2, 4, 5, 6}, 300, false},
	} {
		want := c.cost
		if !c.right {
			want = 0
		}
		cost, right := checkTree(t, c.m, c.stops, c.tree)
		if _, defined := costOfTree(c.m, c.stops, c.tree); cost != want || right != c.right || right != defined {
			t.Error(c.m, c.stops, c.tree, cost, right)
		}
	}
}

// P5.4: CheckTree, by the definition, for all sets of roads.
func TestCheckTreeOfMany(t *testing.T) {
	right := 0
	cases(120, 8, func(m route.Map, r *rand.Rand) {
		if len(m.Roads) > 8 {
			return
		}
		for range 4 {
			stops := someStops(m, r)
			for set := range 1 << len(m.Roads) {
				tree := someRoads(m, set)
				want, defined := costOfTree(m, stops, tree)
				cost, got := checkTree(t, m, stops, tree)
				if got != defined || got && cost != want {
					t.Fatal(m, stops, tree, cost, got)
				}
				if got {
					right++
				}
			}
		}
	})
	if right < 500 {
		t.Error("too few trees", right)
	}
}

// P5.4: CheckTree, by the definition, for all short slices.
func TestCheckTreeOfAll(t *testing.T) {
	m := mapOf(3, [3]int{0, 1, 1}, [3]int{1, 2, 3}, [3]int{2, 1, 7})
	for stops := 1; stops < 8; stops++ {
		for _, tree := range slicesOf(-1, 3, 4) {
			want, defined := costOfTree(m, stops, tree)
			if cost, right := checkTree(t, m, stops, tree); right != defined || right && cost != want {
				t.Error(stops, tree, cost, right)
			}
		}
	}
}

// P5.6: Spanning.
func TestSpanningExamples(t *testing.T) {
	for _, c := range []struct {
		m    route.Map
		want []int
	}{
		{star(), []int{0, 1, 2}},
		{single(), nil},
		{twins(), []int{1}},
		{square(), []int{0, 1, 2, 4}},
		{long(), []int{0, 1, 2, 3, 4, 5, 6}},
		// A ring without its dearest road, and without its last one if none is dearer.
		{mapOf(4, [3]int{0, 1, 2}, [3]int{1, 2, 3}, [3]int{2, 3, 2}, [3]int{3, 0, 2}), []int{0, 2, 3}},
		{mapOf(4, [3]int{0, 1, 2}, [3]int{1, 2, 2}, [3]int{2, 3, 2}, [3]int{3, 0, 2}), []int{0, 1, 2}},
		{mapOf(3, [3]int{0, 1, 50}, [3]int{1, 2, 49}, [3]int{2, 0, 48}), []int{1, 2}},
	} {
		if tree, e := route.Spanning(c.m); !slices.Equal(tree, c.want) || e != api.OK {
			t.Error(c.m, tree, e)
		}
	}
	for _, m := range []route.Map{islands(), mapOf(2), mapOf(8), mapOf(3, [3]int{0, 1, 1}, [3]int{0, 1, 1})} {
		if tree, e := route.Spanning(m); len(tree) != 0 || e != api.ErrNone {
			t.Error(m, tree, e)
		}
	}
}

// spanning is the first tree for all stops with the least cost, if there is one: taking roads by their costs, and by their indices, unless they close a cycle.
func spanning(m route.Map) []int {
	part := make([]int, m.N)
	for stop := range part {
		part[stop] = stop
	}
	var tree []int
	for cost := 1; cost <= 50; cost++ {
		for at, road := range m.Roads {
			from, to := part[road.A], part[road.B]
			if road.Cost != cost || from == to {
				continue
			}
			tree = append(tree, at)
			for stop := range part {
				if part[stop] == from {
					part[stop] = to
				}
			}
		}
	}
	slices.Sort(tree)
	return tree
}

// P5.6: Spanning, by taking the cheapest roads first.
func TestSpanningOfMany(t *testing.T) {
	found, none := 0, 0
	cases(1500, 16, func(m route.Map, r *rand.Rand) {
		tree, e := route.Spanning(m)
		want := spanning(m)
		if len(want) < m.N-1 {
			none++
			if len(tree) != 0 || e != api.ErrNone {
				t.Fatal(m, tree, e)
			}
			return
		}
		found++
		if !slices.Equal(tree, want) || e != api.OK {
			t.Fatal(m, tree, e, want)
		}
	})
	if found < 300 || none < 300 {
		t.Error("too few of a kind", found, none)
	}
}

// P5.4 and P5.6: invalid maps and stops.
func TestTreeErrors(t *testing.T) {
	for k, m := range badMaps() {
		if tree, e := route.Spanning(m); len(tree) != 0 || e != api.ErrArg {
			t.Error(k, tree, e)
		}
	}
	badAsks(func(m route.Map, stops int) {
		if tree, e := route.Tree(m, stops); len(tree) != 0 || e != api.ErrArg {
			t.Error(m, stops, tree, e)
		}
		for _, tree := range [][]int{nil, {0}, {-1}} {
			if cost, right, e := route.CheckTree(m, stops, tree); cost != 0 || right || e != api.ErrArg {
				t.Error(m, stops, tree, cost, right, e)
			}
		}
	})
}
