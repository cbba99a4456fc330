package route_test

import (
	"cmp"
	"math/rand"
	"slices"
	"testing"

	"corrody/api"
	"corrody/route"
)

// mapOf is a map with roads as they are written: two ends and a cost.
func mapOf(n int, roads ...[3]int) route.Map {
	m := route.Map{N: n}
	for _, road := range roads {
		m.Roads = append(m.Roads, route.Road{A: road[0], B: road[1], Cost: road[2]})
	}
	return m
}

// star is the chapter's example.
func star() route.Map {
	return mapOf(4, [3]int{3, 0, 2}, [3]int{3, 1, 2}, [3]int{3, 2, 2}, [3]int{0, 1, 3})
}

// single is the least map.
func single() route.Map { return mapOf(1) }

// twins has roads between the same stops.
func twins() route.Map {
	return mapOf(2, [3]int{0, 1, 4}, [3]int{1, 0, 2}, [3]int{0, 1, 2}, [3]int{1, 0, 3})
}

// islands has two parts, and a stop without a road.
func islands() route.Map { return mapOf(5, [3]int{0, 2, 1}, [3]int{4, 1, 5}, [3]int{2, 0, 7}) }

// square has two ways of the same cost and size between opposite stops, and a longer one.
func square() route.Map {
	return mapOf(5, [3]int{0, 2, 2}, [3]int{2, 3, 1}, [3]int{0, 1, 1}, [3]int{1, 3, 2}, [3]int{0, 4, 1}, [3]int{4, 1, 1})
}

// long has the greatest costs there are, on one way.
func long() route.Map {
	return mapOf(8, [3]int{0, 1, 50}, [3]int{2, 1, 50}, [3]int{2, 3, 50}, [3]int{4, 3, 50}, [3]int{4, 5, 50}, [3]int{6, 5, 50}, [3]int{6, 7, 50})
}

// wheel has all stops and all roads that a map can have: a ring, and spokes to stop 7, two of them twice.
func wheel() route.Map {
	m := route.Map{N: 8}
	for stop := range 7 {
		m.Roads = append(m.Roads, route.Road{A: stop, B: (stop + 1) % 7, Cost: 2}, route.Road{A: 7, B: stop, Cost: 1 + stop%3})
	}
	m.Roads = append(m.Roads, route.Road{A: 7, B: 0, Cost: 1}, route.Road{A: 3, B: 7, Cost: 4})
	return m
}

func examples() []route.Map {
	return []route.Map{star(), single(), twins(), islands(), square(), long(), wheel()}
}

func clone(m route.Map) route.Map { return route.Map{N: m.N, Roads: slices.Clone(m.Roads)} }

// randomMap returns a map of any shape with at most so many roads. Small costs are frequent, as they make ways and trees cost the same.
func randomMap(r *rand.Rand, roads int) route.Map {
	m := route.Map{N: 1 + r.Intn(api.MaxNodes)}
	if m.N == 1 {
		return m
	}
	most := []int{1, 2, 4, 50}[r.Intn(4)]
	for range r.Intn(roads + 1) {
		a := r.Intn(m.N)
		b := (a + 1 + r.Intn(m.N-1)) % m.N
		m.Roads = append(m.Roads, route.Road{A: a, B: b, Cost: 1 + r.Intn(most)})
	}
	return m
}

// cases calls f with the examples and with count maps from a fixed sequence, which have at most so many roads.
func cases(count, roads int, f func(m route.Map, r *rand.Rand)) {
	r := rand.New(rand.NewSource(1))
	for _, m := range examples() {
		f(m, r)
	}
	for range count {
		f(randomMap(r, roads), r)
	}
}

// someStops is a set of stops that can be asked for.
func someStops(m route.Map, r *rand.Rand) int { return 1 + r.Intn(1<<m.N-1) }

// ok fails if there is an error, and else returns what a function returned before it.
func ok[T any](t *testing.T) func(x T, e api.Errno) T {
	t.Helper()
	return func(x T, e api.Errno) T {
		t.Helper()
		if e != api.OK {
			t.Fatal(x, e)
		}
		return x
	}
}

func distances(t *testing.T, m route.Map) [][]int {
	t.Helper()
	return ok[[][]int](t)(route.Distances(m))
}

func way(t *testing.T, m route.Map, a, b int) []int {
	t.Helper()
	return ok[[]int](t)(route.Way(m, a, b))
}

func checkWay(t *testing.T, m route.Map, way, potentials []int) bool {
	t.Helper()
	return ok[bool](t)(route.CheckWay(m, way, potentials))
}

// treeOf is the tree for stops and its cost, and whether there is one.
func treeOf(t *testing.T, m route.Map, stops int) ([]int, int, bool) {
	t.Helper()
	tree, e := route.Tree(m, stops)
	if e == api.ErrNone {
		return nil, 0, false
	}
	cost, right := checkTree(t, m, stops, tree)
	if e != api.OK || !right {
		t.Fatal(m, stops, tree, e)
	}
	return tree, cost, true
}

func checkTree(t *testing.T, m route.Map, stops int, tree []int) (int, bool) {
	t.Helper()
	cost, right, e := route.CheckTree(m, stops, tree)
	if e != api.OK || !right && cost != 0 {
		t.Fatal(m, stops, tree, cost, right, e)
	}
	return cost, right
}

func checkMoats(t *testing.T, m route.Map, stops int, l []route.Moat) (int, bool) {
	t.Helper()
	sum, right, e := route.CheckMoats(m, stops, l)
	if e != api.OK || !right && sum != 0 {
		t.Fatal(m, stops, l, sum, right, e)
	}
	return sum, right
}

// stepOf is the least cost of a road between two stops, and whether there is one.
func stepOf(m route.Map, a, b int) (int, bool) {
	least, found := 0, false
	for _, road := range m.Roads {
		if (road.A == a && road.B == b || road.A == b && road.B == a) && (!found || road.Cost < least) {
			least, found = road.Cost, true
		}
	}
	return least, found
}

// costOf is the cost of a way, and whether it is one, by the definition.
func costOf(m route.Map, way []int) (int, bool) {
	if len(way) == 0 {
		return 0, false
	}
	seen, cost := map[int]bool{}, 0
	for at, stop := range way {
		if stop < 0 || stop >= m.N || seen[stop] {
			return 0, false
		}
		seen[stop] = true
		if at > 0 {
			step, found := stepOf(m, way[at-1], stop)
			if !found {
				return 0, false
			}
			cost += step
		}
	}
	return cost, true
}

// waysFrom are all ways from a stop.
func waysFrom(m route.Map, a int) [][]int {
	all := [][]int{{a}}
	for k := 0; k < len(all); k++ {
		for next := range m.N {
			longer := append(slices.Clone(all[k]), next)
			if _, right := costOf(m, longer); right {
				all = append(all, longer)
			}
		}
	}
	return all
}

// bestWays are for each stop the way that Way finds from a stop, by the definition, or nil.
func bestWays(m route.Map, a int) [][]int {
	best := make([][]int, m.N)
	for _, way := range waysFrom(m, a) {
		end := way[len(way)-1]
		if best[end] == nil {
			best[end] = way
			continue
		}
		cost, _ := costOf(m, way)
		least, _ := costOf(m, best[end])
		if before(cost, way, least, best[end]) {
			best[end] = way
		}
	}
	return best
}

// before reports whether what costs less, else what is shorter, else what is first, is a.
func before(cost int, a []int, other int, b []int) bool {
	return cmp.Or(cmp.Compare(cost, other), cmp.Compare(len(a), len(b)), slices.Compare(a, b)) < 0
}

// proves reports whether potentials prove that a way has the least cost, by the definition.
func proves(m route.Map, way, potentials []int) bool {
	cost, right := costOf(m, way)
	if !right || len(potentials) != m.N {
		return false
	}
	for _, potential := range potentials {
		if potential > 1000 || potential < -1000 {
			return false
		}
	}
	for _, road := range m.Roads {
		if potentials[road.A]-potentials[road.B] > road.Cost || potentials[road.B]-potentials[road.A] > road.Cost {
			return false
		}
	}
	return potentials[way[len(way)-1]] == potentials[way[0]]+cost
}

// costOfTree is the cost of a tree for stops, and whether it is one: it reaches one more stop than it has roads, from the first one all of them.
func costOfTree(m route.Map, stops int, tree []int) (int, bool) {
	touched, cost := map[int]bool{}, 0
	for place, at := range tree {
		if at < 0 || at >= len(m.Roads) || place > 0 && tree[place-1] >= at {
			return 0, false
		}
		touched[m.Roads[at].A], touched[m.Roads[at].B] = true, true
		cost += m.Roads[at].Cost
	}
	if len(tree) == 0 {
		return 0, stops&(stops-1) == 0
	}
	reached := map[int]bool{m.Roads[tree[0]].A: true}
	for range tree {
		for _, at := range tree {
			road := m.Roads[at]
			if reached[road.A] || reached[road.B] {
				reached[road.A], reached[road.B] = true, true
			}
		}
	}
	for stop := range m.N {
		if stops&(1<<stop) != 0 && !reached[stop] {
			return 0, false
		}
	}
	if len(reached) != len(touched) || len(tree) != len(touched)-1 {
		return 0, false
	}
	return cost, true
}

// someRoads are the indices in a set.
func someRoads(m route.Map, set int) []int {
	var roads []int
	for at := range m.Roads {
		if set&(1<<at) != 0 {
			roads = append(roads, at)
		}
	}
	return roads
}

// bestTree is the tree that Tree finds, by trying all sets of roads, its cost, and whether there is one.
func bestTree(m route.Map, stops int) ([]int, int, bool) {
	var best []int
	least, found := 0, false
	for set := range 1 << len(m.Roads) {
		tree := someRoads(m, set)
		if cost, right := costOfTree(m, stops, tree); right && (!found || before(cost, tree, least, best)) {
			best, least, found = tree, cost, true
		}
	}
	return best, least, found
}

// widthsThatFit is the sum of the widths of moats, and whether they fit, by the definition.
func widthsThatFit(m route.Map, stops int, l []route.Moat) (int, bool) {
	if len(l) > 200 {
		return 0, false
	}
	sum := 0
	for _, moat := range l {
		inside, outside := false, false
		for stop := range m.N {
			if stops&(1<<stop) != 0 {
				inside = inside || moat.Set&(1<<stop) != 0
				outside = outside || moat.Set&(1<<stop) == 0
			}
		}
		if moat.Set < 0 || moat.Set > 1<<m.N-1 || !inside || !outside || moat.Width < 1 || moat.Width > 1000 {
			return 0, false
		}
		sum += moat.Width
	}
	for _, road := range m.Roads {
		width := 0
		for _, moat := range l {
			ends := 0
			for _, end := range []int{road.A, road.B} {
				if moat.Set&(1<<end) != 0 {
					ends++
				}
			}
			if ends == 1 {
				width += moat.Width
			}
		}
		if width > 2*road.Cost {
			return 0, false
		}
	}
	return sum, true
}

// badMaps are no maps.
func badMaps() []route.Map {
	road := route.Road{A: 0, B: 1, Cost: 1}
	l := []route.Map{
		{},
		{N: 9},
		{N: -1},
		{N: 64},
		{N: 1<<63 - 1},
		{N: -1 << 63},
		{N: 1, Roads: []route.Road{road}},
		{N: 1, Roads: []route.Road{{}}},
		{N: 0, Roads: []route.Road{road}},
		{N: 9, Roads: []route.Road{road}},
		{N: 2, Roads: slices.Repeat([]route.Road{road}, 17)},
		{N: 2, Roads: slices.Repeat([]route.Road{road}, 100000)},
	}
	for at := range 16 {
		for _, bad := range []route.Road{
			{A: 1, B: 1, Cost: 1}, {A: -1, B: 1, Cost: 1}, {A: 0, B: -1, Cost: 1}, {A: 4, B: 0, Cost: 1}, {A: 0, B: 4, Cost: 1}, {A: 0, B: 8, Cost: 1},
			{A: 1<<63 - 1, B: 0, Cost: 1}, {A: 0, B: 1<<63 - 1, Cost: 1}, {A: -1 << 63, B: 0, Cost: 1}, {A: 0, B: -1 << 63, Cost: 1}, {A: -1, B: -1, Cost: 1},
			{A: 0, B: 1, Cost: 0}, {A: 0, B: 1, Cost: 51}, {A: 0, B: 1, Cost: -1}, {A: 0, B: 1, Cost: 1<<63 - 1}, {A: 0, B: 1, Cost: -1 << 63},
		} {
			roads := slices.Repeat([]route.Road{road}, 16)
			roads[at] = bad
			l = append(l, route.Map{N: 4, Roads: roads})
		}
	}
	return l
}

// badStops are no stops of a map with n stops.
func badStops(n int) []int {
	return []int{-1, n, n + 1, 8, 63, 64, 1<<63 - 1, -1 << 63}
}

// badSets are no sets of stops that can be asked for in a map with n stops.
func badSets(n int) []int {
	return []int{0, -1, -2, 1 << n, 1<<n + 1, 1 << 8, 1<<63 - 1, -1 << 63}
}

// badAsks calls f with maps and stops of which the one or the other is not valid.
func badAsks(f func(m route.Map, stops int)) {
	for _, m := range badMaps() {
		for _, stops := range []int{0, 1, 3, -1} {
			f(m, stops)
		}
	}
	for _, m := range append(examples(), mapOf(8), mapOf(2)) {
		for _, stops := range badSets(m.N) {
			f(m, stops)
		}
	}
}
