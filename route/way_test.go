package route_test

import (
	"math/rand"
	"reflect"
	"slices"
	"testing"

	"corrody/api"
	"corrody/route"
)

// P5.1: Distances.
func TestDistancesExamples(t *testing.T) {
	for _, c := range []struct {
		m    route.Map
		want [][]int
	}{
		{star(), [][]int{{0, 3, 4, 2}, {3, 0, 4, 2}, {4, 4, 0, 2}, {2, 2, 2, 0}}},
		{single(), [][]int{{0}}},
		{twins(), [][]int{{0, 2}, {2, 0}}},
		{islands(), [][]int{{0, -1, 1, -1, -1}, {-1, 0, -1, -1, 5}, {1, -1, 0, -1, -1}, {-1, -1, -1, 0, -1}, {-1, 5, -1, -1, 0}}},
		{square(), [][]int{{0, 1, 2, 3, 1}, {1, 0, 3, 2, 1}, {2, 3, 0, 1, 3}, {3, 2, 1, 0, 3}, {1, 1, 3, 3, 0}}},
		{mapOf(2), [][]int{{0, -1}, {-1, 0}}},
	} {
		if far := distances(t, c.m); !reflect.DeepEqual(far, c.want) {
			t.Error(c.m, far)
		}
	}
	if far := distances(t, long()); far[0][7] != 350 || far[7][1] != 300 {
		t.Error(far)
	}
}

// P5.1: Way.
func TestWayExamples(t *testing.T) {
	for _, c := range []struct {
		m    route.Map
		want []int
	}{
		{star(), []int{0, 3, 2}},
		{star(), []int{0, 1}},
		{star(), []int{3}},
		{single(), []int{0}},
		{twins(), []int{1, 0}},
		{islands(), []int{4, 1}},
		{islands(), []int{3}},
		// Through 1 or 2, at the same cost.
		{square(), []int{0, 1, 3}},
		{square(), []int{3, 1, 0}},
		// A step from 1 to 0 and on to 4 is no better.
		{square(), []int{1, 4}},
		{square(), []int{4, 0, 2}},
		{long(), []int{0, 1, 2, 3, 4, 5, 6, 7}},
		{long(), []int{7, 6, 5, 4, 3, 2, 1, 0}},
		// Fewer stops come before a first stop that is less.
		{mapOf(4, [3]int{0, 1, 1}, [3]int{1, 2, 1}, [3]int{2, 3, 1}, [3]int{0, 2, 2}), []int{0, 2, 3}},
		// Less cost comes before fewer stops.
		{mapOf(4, [3]int{0, 1, 1}, [3]int{1, 2, 1}, [3]int{2, 3, 1}, [3]int{0, 3, 4}), []int{0, 1, 2, 3}},
		{mapOf(4, [3]int{0, 1, 1}, [3]int{1, 2, 1}, [3]int{2, 3, 1}, [3]int{0, 3, 3}), []int{0, 3}},
	} {
		if l := way(t, c.m, c.want[0], c.want[len(c.want)-1]); !slices.Equal(l, c.want) {
			t.Error(c.m, c.want, l)
		}
	}
}

// P5.1: Distances and Way, by the definition.
func TestWayOfMany(t *testing.T) {
	longest, none := 0, 0
	cases(1500, 16, func(m route.Map, r *rand.Rand) {
		far := distances(t, m)
		if len(far) != m.N {
			t.Fatal(m, far)
		}
		for a, row := range far {
			if len(row) != m.N {
				t.Fatal(m, far)
			}
			for b, want := range bestWays(m, a) {
				l, e := route.Way(m, a, b)
				if want == nil {
					none++
					if row[b] != -1 || len(l) != 0 || e != api.ErrNone {
						t.Fatal(m, a, b, row, l, e)
					}
					continue
				}
				cost, _ := costOf(m, want)
				if row[b] != cost || !slices.Equal(l, want) || e != api.OK {
					t.Fatal(m, a, b, row, l, e)
				}
				longest = max(longest, len(l))
			}
		}
	})
	if longest < 8 || none < 1000 {
		t.Error("too few of a kind", longest, none)
	}
}

// cube has the corners of a cube as its stops, in a random order, with the edges as roads of cost 1, and some more roads.
func cube(r *rand.Rand) route.Map {
	m := route.Map{N: 8}
	names := r.Perm(8)
	for corner := range 8 {
		for _, edge := range []int{1, 2, 4} {
			if corner&edge == 0 {
				m.Roads = append(m.Roads, route.Road{A: names[corner], B: names[corner|edge], Cost: 1})
			}
		}
	}
	for range 4 {
		a := r.Intn(8)
		m.Roads = append(m.Roads, route.Road{A: a, B: (a + 1 + r.Intn(7)) % 8, Cost: 2 + r.Intn(2)})
	}
	return m
}

// P5.1: Way is the first one of many, also where the way back is another one.
func TestWayOfCubes(t *testing.T) {
	r := rand.New(rand.NewSource(2))
	others := 0
	for range 100 {
		m := cube(r)
		for b, want := range bestWays(m, 0) {
			if l := way(t, m, 0, b); !slices.Equal(l, want) {
				t.Fatal(m, b, l, want)
			}
			back := way(t, m, b, 0)
			slices.Reverse(back)
			if !slices.Equal(back, want) {
				others++
			}
		}
	}
	if others < 15 {
		t.Error("too few other ways back", others)
	}
}

// P5.2: CheckWay.
func TestCheckWayExamples(t *testing.T) {
	for _, c := range []struct {
		m               route.Map
		way, potentials []int
		right           bool
	}{
		{star(), []int{0, 3, 2}, []int{0, 3, 4, 2}, true},
		{star(), []int{0, 1}, []int{0, 3, 4, 2}, true},
		{star(), []int{0}, []int{0, 3, 4, 2}, true},
		{star(), []int{1}, []int{0, 0, 0, 0}, true},
		{star(), []int{0, 3, 2}, []int{996, 999, 1000, 998}, true},
		{star(), []int{0, 3, 2}, []int{-1000, -997, -996, -998}, true},
		{star(), []int{0, 3, 2}, []int{-2, 0, 2, 0}, true},
		{star(), []int{0, 3, 2}, []int{-2, 1, 2, 0}, true},
		// The ends differ by less, by more, and by as much the other way round.
		{star(), []int{0, 3, 2}, []int{0, 3, 3, 2}, false},
		{star(), []int{0, 3, 2}, []int{0, 0, 0, 0}, false},
		{star(), []int{2, 3, 0}, []int{0, 3, 4, 2}, false},
		{star(), []int{0, 3}, []int{0, 3, 4, 1}, false},
		{star(), []int{0}, []int{0, 3, 5, 2}, false},
		// A road's ends differ by more than its cost, either way round.
		{star(), []int{0, 3, 2}, []int{0, 4, 4, 2}, false},
		{star(), []int{0, 3, 2}, []int{0, -1, 4, 2}, false},
		{star(), []int{0, 3, 2}, []int{0, 3, 4, 1}, false},
		{star(), []int{0, 3, 1}, []int{0, 4, 4, 2}, false},
		// A way that does not have the least cost.
		{star(), []int{0, 3, 1}, []int{0, 3, 4, 2}, false},
		// What is no way.
		{star(), nil, []int{0, 3, 4, 2}, false},
		{star(), []int{}, []int{0, 0, 0, 0}, false},
		{star(), []int{0, 2}, []int{0, 3, 4, 2}, false},
		{star(), []int{1, 2}, []int{0, 0, 4, 2}, false},
		{star(), []int{0, 0}, []int{0, 3, 4, 2}, false},
		{star(), []int{0, 3, 0}, []int{0, 3, 4, 2}, false},
		{star(), []int{0, 3, 2, 3, 2}, []int{0, 3, 4, 2}, false},
		{star(), []int{4}, []int{0, 3, 4, 2}, false},
		{star(), []int{-1}, []int{0, 3, 4, 2}, false},
		{star(), []int{0, 3, 4}, []int{0, 3, 4, 2}, false},
		{star(), []int{-1 << 63}, []int{0, 3, 4, 2}, false},
		{star(), []int{0, 1<<63 - 1}, []int{0, 3, 4, 2}, false},
		{star(), make([]int, 100000), []int{0, 3, 4, 2}, false},
		// What are no potentials.
		{star(), []int{0}, nil, false},
		{star(), []int{0}, []int{0, 0, 0}, false},
		{star(), []int{0}, []int{0, 0, 0, 0, 0}, false},
		{star(), []int{0}, make([]int, 100000), false},
		{star(), []int{0, 3, 2}, []int{997, 1000, 1001, 999}, false},
		{star(), []int{0, 3, 2}, []int{-1001, -998, -997, -999}, false},
		{star(), []int{0}, []int{1<<63 - 1, 1<<63 - 1, 1<<63 - 1, 1<<63 - 1}, false},
		{star(), []int{0}, []int{-1 << 63, 1<<63 - 1, -1 << 63, 1<<63 - 1}, false},
		{single(), []int{0}, []int{1000}, true},
		{single(), []int{0}, []int{-1000}, true},
		{single(), []int{0}, []int{1001}, false},
		{single(), []int{0}, []int{-1001}, false},
		// The way goes over the cheapest road, and the ends of all roads are bounded by it.
		{twins(), []int{0, 1}, []int{0, 2}, true},
		{twins(), []int{1, 0}, []int{2, 0}, true},
		{twins(), []int{0, 1}, []int{0, 4}, false},
		{twins(), []int{0, 1}, []int{0, 3}, false},
		// Stops between which there is no way may differ by anything.
		{islands(), []int{0, 2}, []int{-1000, 1000, -999, 0, 995}, true},
		{islands(), []int{0, 2}, []int{-1000, 1000, -999, 0, 994}, false},
		{islands(), []int{0, 1}, []int{0, 400, 1, 0, 400}, false},
		{islands(), []int{3}, []int{0, 0, 0, 7, 0}, true},
		{long(), []int{0, 1, 2, 3, 4, 5, 6, 7}, []int{0, 50, 100, 150, 200, 250, 300, 350}, true},
	} {
		if right := checkWay(t, c.m, c.way, c.potentials); right != c.right || right != proves(c.m, c.way, c.potentials) {
			t.Error(c.m, c.way, c.potentials, right)
		}
	}
}

// P5.2: CheckWay, by the definition, for ways and potentials that are nearly right. What it accepts has the least cost.
func TestCheckWayOfMany(t *testing.T) {
	right, wrong := 0, 0
	cases(3000, 16, func(m route.Map, r *rand.Rand) {
		far := distances(t, m)
		a, b := r.Intn(m.N), r.Intn(m.N)
		if far[a][b] < 0 {
			b = a
		}
		l, p := way(t, m, a, b), slices.Clone(far[a])
		shift := r.Intn(11) - 5
		for stop := range p {
			p[stop] += shift
		}
		switch r.Intn(5) {
		case 0:
			p[r.Intn(len(p))] += r.Intn(3) - 1
		case 1:
			l[r.Intn(len(l))] = r.Intn(m.N)
		case 2:
			l = slices.Insert(l, r.Intn(len(l)+1), r.Intn(m.N))
		case 3:
			all := waysFrom(m, a)
			l = all[r.Intn(len(all))]
		}
		got := checkWay(t, m, l, p)
		if got != proves(m, l, p) {
			t.Fatal(m, l, p, got)
		}
		if !got {
			wrong++
			return
		}
		right++
		if cost, _ := costOf(m, l); cost != far[l[0]][l[len(l)-1]] {
			t.Fatal(m, l, p, cost)
		}
	})
	if right < 800 || wrong < 800 {
		t.Error("too few of a kind", right, wrong)
	}
}

// P5.2: CheckWay, by the definition, for all short slices and all small potentials.
func TestCheckWayOfAll(t *testing.T) {
	accepted := 0
	for _, m := range []route.Map{mapOf(3, [3]int{0, 1, 1}, [3]int{1, 2, 1}, [3]int{0, 2, 2}), mapOf(3, [3]int{0, 1, 2}, [3]int{2, 1, 1}), mapOf(3, [3]int{0, 2, 1})} {
		for _, l := range slicesOf(-1, 3, 3) {
			for _, p := range slicesOf(-2, 2, 3) {
				got := checkWay(t, m, l, p)
				if got != proves(m, l, p) {
					t.Fatal(m, l, p, got)
				}
				if got {
					accepted++
				}
			}
		}
	}
	if accepted < 100 {
		t.Error("too few accepted", accepted)
	}
}

// slicesOf are all slices of at most size numbers from least to most.
func slicesOf(least, most, size int) [][]int {
	all := [][]int{nil}
	for k := 0; k < len(all); k++ {
		if len(all[k]) == size {
			continue
		}
		for x := least; x <= most; x++ {
			all = append(all, append(slices.Clone(all[k]), x))
		}
	}
	return all
}

// P5.3: Potentials.
func TestPotentialsExamples(t *testing.T) {
	for _, c := range []struct {
		m    route.Map
		a    int
		want []int
	}{
		{star(), 0, []int{0, 3, 4, 2}},
		{star(), 3, []int{2, 2, 2, 0}},
		{single(), 0, []int{0}},
		{twins(), 1, []int{2, 0}},
		{square(), 4, []int{1, 1, 3, 3, 0}},
		{long(), 7, []int{350, 300, 250, 200, 150, 100, 50, 0}},
	} {
		if p, e := route.Potentials(c.m, c.a); !slices.Equal(p, c.want) || e != api.OK {
			t.Error(c.m, c.a, p, e)
		}
	}
}

// P5.3: Potentials are the distances, if there are all of them.
func TestPotentialsOfMany(t *testing.T) {
	found, none := 0, 0
	cases(1500, 16, func(m route.Map, r *rand.Rand) {
		for a, row := range distances(t, m) {
			p, e := route.Potentials(m, a)
			if slices.Contains(row, -1) {
				none++
				if len(p) != 0 || e != api.ErrNone {
					t.Fatal(m, a, p, e)
				}
				continue
			}
			found++
			if !slices.Equal(p, row) || e != api.OK {
				t.Fatal(m, a, p, e)
			}
		}
	})
	if found < 1000 || none < 1000 {
		t.Error("too few of a kind", found, none)
	}
}

// P5.1 to P5.3: invalid maps and stops.
func TestWayErrors(t *testing.T) {
	for k, m := range badMaps() {
		if far, e := route.Distances(m); len(far) != 0 || e != api.ErrArg {
			t.Error(k, far, e)
		}
		for _, a := range []int{0, 1, -1, 9} {
			if l, e := route.Way(m, 0, a); len(l) != 0 || e != api.ErrArg {
				t.Error(k, a, l, e)
			}
			if p, e := route.Potentials(m, a); len(p) != 0 || e != api.ErrArg {
				t.Error(k, a, p, e)
			}
		}
		for _, l := range [][]int{nil, {0}, {0, 1}} {
			for _, p := range [][]int{nil, {0}, {0, 1, 1, 1}} {
				if right, e := route.CheckWay(m, l, p); right || e != api.ErrArg {
					t.Error(k, l, p, right, e)
				}
			}
		}
	}
	for _, m := range append(examples(), mapOf(8), mapOf(2)) {
		for _, bad := range badStops(m.N) {
			for _, c := range [][2]int{{bad, 0}, {0, bad}, {bad, bad}} {
				if l, e := route.Way(m, c[0], c[1]); len(l) != 0 || e != api.ErrArg {
					t.Error(m, c, l, e)
				}
			}
			if p, e := route.Potentials(m, bad); len(p) != 0 || e != api.ErrArg {
				t.Error(m, bad, p, e)
			}
		}
	}
}
