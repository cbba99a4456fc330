package games_test

import (
	"math/rand"
	"slices"
	"testing"

	"corrody/api"
	"corrody/games"
)

// lengths calls f with some lengths, and with count lengths from a fixed sequence, of which equal ones and 0 are frequent.
func lengths(count int, f func(l []int)) {
	for _, l := range [][]int{{0}, {1}, {1000}, {2, 5}, {5, 2}, {0, 0, 0, 0}, {1000, 1000, 1000, 1000}, {0, 1000, 0, 1000}, {1, 2, 3, 4}, {4, 3, 2, 1}, {999, 1000, 0, 1}} {
		f(l)
	}
	r := rand.New(rand.NewSource(1))
	for range count {
		f(randomLengths(r, 1+r.Intn(4), []int{1, 3, 10, 1000}[r.Intn(4)]))
	}
}

// P7.5: Road.
func TestRoadExamples(t *testing.T) {
	for _, c := range []struct{ l, costs []int }{
		{[]int{2, 5}, []int{0, 2, 5, 5}},
		{[]int{5, 2}, []int{0, 5, 2, 5}},
		{[]int{0}, []int{0, 0}},
		{[]int{1000}, []int{0, 1000}},
		{[]int{3, 3, 3}, []int{0, 3, 3, 3, 3, 3, 3, 3}},
		{[]int{4, 0, 9}, []int{0, 4, 0, 4, 9, 9, 9, 9}},
		{[]int{2, 4, 1, 3}, []int{0, 2, 4, 4, 1, 2, 4, 4, 3, 3, 4, 4, 3, 3, 4, 4}},
		{[]int{1000, 0, 0, 999}, []int{0, 1000, 0, 1000, 0, 1000, 0, 1000, 999, 1000, 999, 1000, 999, 1000, 999, 1000}},
	} {
		if costs := road(t, c.l); !slices.Equal(costs, c.costs) {
			t.Error(c.l, costs)
		}
	}
}

// P7.5: Serial.
func TestSerialExamples(t *testing.T) {
	for _, c := range []struct {
		l []int
		x []api.Frac
	}{
		{[]int{2, 5}, whole(1, 4)},
		{[]int{5, 2}, whole(4, 1)},
		{[]int{3, 3}, []api.Frac{f(3, 2), f(3, 2)}},
		{[]int{0}, whole(0)},
		{[]int{1000}, whole(1000)},
		{[]int{0, 0, 0, 0}, whole(0, 0, 0, 0)},
		{[]int{0, 7, 0}, whole(0, 7, 0)},
		{[]int{1, 2, 3}, []api.Frac{f(1, 3), f(5, 6), f(11, 6)}},
		{[]int{4, 3, 2, 1}, []api.Frac{f(25, 12), f(13, 12), f(7, 12), f(1, 4)}},
		{[]int{9, 1, 9, 1}, []api.Frac{f(17, 4), f(1, 4), f(17, 4), f(1, 4)}},
		{[]int{1, 5, 5, 5}, []api.Frac{f(1, 4), f(19, 12), f(19, 12), f(19, 12)}},
		{[]int{1000, 1000, 1000, 1000}, whole(250, 250, 250, 250)},
		{[]int{1000, 1000, 1000}, []api.Frac{f(1000, 3), f(1000, 3), f(1000, 3)}},
	} {
		if x := serial(t, c.l); !slices.Equal(x, c.x) {
			t.Error(c.l, x)
		}
	}
}

// P7.5: Road and Serial, by the definitions: each unit of the road is paid by those who use it.
func TestRoadOfMany(t *testing.T) {
	lengths(1000, func(l []int) {
		for set, cost := range road(t, l) {
			units := 0
			for at := range 1000 {
				used := false
				for player, length := range l {
					used = used || in(set, player) && at < length
				}
				if used {
					units++
				}
			}
			if cost != units {
				t.Fatal(l, set, cost)
			}
		}
		x := serial(t, l)
		for player, length := range l {
			sum := 0
			for at := range length {
				users := 0
				for _, other := range l {
					if at < other {
						users++
					}
				}
				sum += 12 / users
			}
			if x[player] != frac(rat(f(sum, 12))) {
				t.Fatal(l, x)
			}
		}
	})
}

// P7.10: Road is concave, and Serial is Shapley of Road.
func TestRoadsAreConcave(t *testing.T) {
	lengths(2000, func(l []int) {
		c := road(t, l)
		if sets, found := concave(t, c); found || !isConcave(c) {
			t.Fatal(l, c, sets)
		}
		x := serial(t, l)
		if !slices.Equal(x, shapley(t, c)) || !inCore(c, x) {
			t.Fatal(l, x)
		}
	})
}

// P7.5: ErrArg for what is no lengths.
func TestBadLengths(t *testing.T) {
	lists := [][]int{nil, {}, make([]int, 5), make([]int, 8), make([]int, 16), make([]int, 64), make([]int, 100000)}
	for n := 1; n <= 4; n++ {
		for at := range n {
			for _, bad := range badNumbers() {
				l := slices.Repeat([]int{1}, n)
				l[at] = bad
				lists = append(lists, l)
			}
		}
	}
	for k, l := range lists {
		if c, e := games.Road(l); len(c) != 0 || e != api.ErrArg {
			t.Error("Road", k, c, e)
		}
		if x, e := games.Serial(l); len(x) != 0 || e != api.ErrArg {
			t.Error("Serial", k, x, e)
		}
	}
}
