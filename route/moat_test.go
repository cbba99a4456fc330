package route_test

import (
	"math/rand"
	"slices"
	"testing"

	"corrody/api"
	"corrody/route"
)

// P5.5: CheckMoats.
func TestCheckMoatsExamples(t *testing.T) {
	ring := mapOf(3, [3]int{0, 1, 50}, [3]int{1, 2, 50}, [3]int{2, 0, 50})
	for _, c := range []struct {
		m     route.Map
		stops int
		l     []route.Moat
		sum   int
		right bool
	}{
		{star(), 7, []route.Moat{{Set: 1, Width: 3}, {Set: 2, Width: 3}, {Set: 4, Width: 3}}, 9, true},
		{star(), 7, []route.Moat{{Set: 1, Width: 3}, {Set: 2, Width: 3}, {Set: 4, Width: 4}}, 10, true},
		{star(), 7, []route.Moat{{Set: 1, Width: 4}, {Set: 2, Width: 2}, {Set: 4, Width: 4}}, 10, true},
		// The road between 0 and 1 has 6, and that between 2 and 3 has 4.
		{star(), 7, []route.Moat{{Set: 1, Width: 4}, {Set: 2, Width: 3}}, 7, false},
		{star(), 7, []route.Moat{{Set: 4, Width: 5}}, 5, false},
		{star(), 7, []route.Moat{{Set: 11, Width: 5}}, 5, false},
		// A moat with both ends of a road, or with none, is nothing to it.
		{star(), 7, []route.Moat{{Set: 3, Width: 4}}, 4, true},
		{star(), 7, []route.Moat{{Set: 3, Width: 5}}, 5, false},
		{star(), 7, []route.Moat{{Set: 11, Width: 4}}, 4, true},
		{star(), 7, []route.Moat{{Set: 9, Width: 4}}, 4, true},
		{star(), 7, []route.Moat{{Set: 9, Width: 5}}, 5, false},
		// The widths of all moats that cross a road count, also of one set twice.
		{star(), 7, []route.Moat{{Set: 4, Width: 2}, {Set: 4, Width: 2}}, 4, true},
		{star(), 7, []route.Moat{{Set: 4, Width: 2}, {Set: 4, Width: 3}}, 5, false},
		{star(), 7, []route.Moat{{Set: 4, Width: 2}, {Set: 11, Width: 2}}, 4, true},
		{star(), 7, []route.Moat{{Set: 4, Width: 2}, {Set: 11, Width: 3}}, 5, false},
		{star(), 7, nil, 0, true},
		{star(), 7, []route.Moat{}, 0, true},
		// Sets that contain all stops that are asked for, or none.
		{star(), 7, []route.Moat{{Set: 7, Width: 1}}, 1, false},
		{star(), 7, []route.Moat{{Set: 8, Width: 1}}, 1, false},
		{star(), 7, []route.Moat{{Set: 15, Width: 1}}, 1, false},
		{star(), 7, []route.Moat{{Set: 0, Width: 1}}, 1, false},
		{star(), 3, []route.Moat{{Set: 4, Width: 1}}, 1, false},
		{star(), 3, []route.Moat{{Set: 5, Width: 1}}, 1, true},
		{star(), 1, nil, 0, true},
		{star(), 1, []route.Moat{{Set: 1, Width: 1}}, 1, false},
		{star(), 1, []route.Moat{{Set: 2, Width: 1}}, 1, false},
		{single(), 1, nil, 0, true},
		{single(), 1, []route.Moat{{Set: 1, Width: 1}}, 1, false},
		// What are no sets of stops.
		{star(), 7, []route.Moat{{Set: 17, Width: 1}}, 1, false},
		{star(), 7, []route.Moat{{Set: 16, Width: 1}}, 1, false},
		{star(), 7, []route.Moat{{Set: 1<<8 + 1, Width: 1}}, 1, false},
		{star(), 7, []route.Moat{{Set: -1, Width: 1}}, 1, false},
		{star(), 7, []route.Moat{{Set: -2, Width: 1}}, 1, false},
		{star(), 7, []route.Moat{{Set: -1<<63 + 1, Width: 1}}, 1, false},
		{star(), 7, []route.Moat{{Set: 1<<62 + 1, Width: 1}}, 1, false},
		{long(), 129, []route.Moat{{Set: 1<<8 + 1, Width: 1}}, 1, false},
		// Widths.
		{star(), 7, []route.Moat{{Set: 1, Width: 0}}, 0, false},
		{star(), 7, []route.Moat{{Set: 1, Width: -1}}, -1, false},
		{star(), 7, []route.Moat{{Set: 1, Width: 1}, {Set: 2, Width: 0}}, 1, false},
		{star(), 7, []route.Moat{{Set: 1, Width: 9}, {Set: 1, Width: -8}}, 1, false},
		{star(), 7, []route.Moat{{Set: 1, Width: -1 << 63}, {Set: 1, Width: -1 << 63}}, 0, false},
		{star(), 7, []route.Moat{{Set: 1, Width: 1<<63 - 1}, {Set: 1, Width: 1<<63 - 1}, {Set: 1, Width: 3}}, 1, false},
		{ring, 3, []route.Moat{{Set: 1, Width: 100}}, 100, true},
		{ring, 3, []route.Moat{{Set: 1, Width: 101}}, 101, false},
		// Between islands there is no road that a moat must fit.
		{islands(), 8 + 1, []route.Moat{{Set: 8, Width: 1000}}, 1000, true},
		{islands(), 8 + 1, []route.Moat{{Set: 8, Width: 1001}}, 1001, false},
		{islands(), 8 + 1, slices.Repeat([]route.Moat{{Set: 8, Width: 1000}}, 200), 200000, true},
		{islands(), 8 + 1, slices.Repeat([]route.Moat{{Set: 8, Width: 1000}}, 201), 201000, false},
		{islands(), 8 + 1, make([]route.Moat, 100000), 0, false},
		// The cheapest of several roads counts.
		{twins(), 3, []route.Moat{{Set: 1, Width: 4}}, 4, true},
		{twins(), 3, []route.Moat{{Set: 1, Width: 2}, {Set: 2, Width: 2}}, 4, true},
		{twins(), 3, []route.Moat{{Set: 1, Width: 5}}, 5, false},
		{twins(), 3, []route.Moat{{Set: 1, Width: 2}, {Set: 2, Width: 3}}, 5, false},
	} {
		want := c.sum
		if !c.right {
			want = 0
		}
		sum, right := checkMoats(t, c.m, c.stops, c.l)
		if _, fit := widthsThatFit(c.m, c.stops, c.l); sum != want || right != c.right || right != fit {
			t.Error(c.m, c.stops, c.l, sum, right)
		}
	}
}

// someMoats are moats that are often right ones.
func someMoats(m route.Map, stops int, r *rand.Rand) []route.Moat {
	var l []route.Moat
	for range r.Intn(4) {
		set := r.Intn(1 << m.N)
		if r.Intn(3) > 0 {
			set = set&^stops | stops&r.Intn(1<<m.N)
		}
		l = append(l, route.Moat{Set: set, Width: 1 + r.Intn(4)})
	}
	return l
}

// P5.5: CheckMoats, by the definition.
func TestCheckMoatsOfMany(t *testing.T) {
	right, wrong := 0, 0
	cases(4000, 16, func(m route.Map, r *rand.Rand) {
		stops := someStops(m, r)
		l := someMoats(m, stops, r)
		if moats, e := route.Moats(m, stops); e == api.OK && r.Intn(2) == 0 {
			l = append(moats, l...)
			if len(l) > 0 {
				at := r.Intn(len(l))
				l[at].Width += r.Intn(3) - 1
			}
		}
		want, fit := widthsThatFit(m, stops, l)
		sum, got := checkMoats(t, m, stops, l)
		if got != fit || got && sum != want {
			t.Fatal(m, stops, l, sum, got)
		}
		if got && len(l) > 0 {
			right++
		} else if !got {
			wrong++
		}
	})
	if right < 300 || wrong < 300 {
		t.Error("too few of a kind", right, wrong)
	}
}

// P5.5: CheckMoats, by the definition, for all pairs of small moats.
func TestCheckMoatsOfAll(t *testing.T) {
	m := mapOf(3, [3]int{0, 1, 1}, [3]int{1, 2, 2})
	var all []route.Moat
	for set := -1; set <= 8; set++ {
		for width := -1; width <= 5; width++ {
			all = append(all, route.Moat{Set: set, Width: width})
		}
	}
	for stops := 1; stops < 8; stops++ {
		for _, first := range all {
			for _, second := range all {
				l := []route.Moat{first, second}
				want, fit := widthsThatFit(m, stops, l)
				if sum, right := checkMoats(t, m, stops, l); right != fit || right && sum != want {
					t.Error(stops, l, sum, right)
				}
			}
		}
	}
}

// P5.5: Moats fit and prove half of what a tree costs, or there is no tree.
func TestMoatsOfMany(t *testing.T) {
	none, large := 0, 0
	cases(400, 9, func(m route.Map, r *rand.Rand) {
		if len(m.Roads) > 9 {
			return
		}
		for range 4 {
			stops := someStops(m, r)
			_, least, found := bestTree(m, stops)
			l, e := route.Moats(m, stops)
			if !found {
				none++
				if len(l) != 0 || e != api.ErrNone {
					t.Fatal(m, stops, l, e)
				}
				continue
			}
			sum, fit := widthsThatFit(m, stops, l)
			if e != api.OK || !fit || sum < least || sum > 2*least {
				t.Fatal(m, stops, l, e, sum, least)
			}
			if len(l) > 4 {
				large++
			}
		}
	})
	if none < 300 || large < 30 {
		t.Error("too few of a kind", none, large)
	}
}

// P5.5: Moats for all stops of the examples.
func TestMoatsOfExamples(t *testing.T) {
	for _, m := range examples() {
		for stops := 1; stops < 1<<m.N; stops++ {
			_, cost, found := treeOf(t, m, stops)
			l, e := route.Moats(m, stops)
			if !found {
				if len(l) != 0 || e != api.ErrNone {
					t.Error(m, stops, l, e)
				}
				continue
			}
			if sum, fit := widthsThatFit(m, stops, l); e != api.OK || !fit || sum < cost {
				t.Error(m, stops, l, e, sum, cost)
			}
		}
	}
	for _, c := range []struct {
		m     route.Map
		stops int
	}{{single(), 1}, {star(), 8}, {mapOf(2), 2}, {islands(), 8}} {
		if l, e := route.Moats(c.m, c.stops); len(l) != 0 || e != api.OK {
			t.Error(c.m, c.stops, l, e)
		}
	}
}

// P5.5: invalid maps and stops.
func TestMoatErrors(t *testing.T) {
	badAsks(func(m route.Map, stops int) {
		if l, e := route.Moats(m, stops); len(l) != 0 || e != api.ErrArg {
			t.Error(m, stops, l, e)
		}
		for _, l := range [][]route.Moat{nil, {{Set: 1, Width: 1}}, {{Set: -1, Width: 0}}} {
			if sum, right, e := route.CheckMoats(m, stops, l); sum != 0 || right || e != api.ErrArg {
				t.Error(m, stops, l, sum, right, e)
			}
		}
	})
}
