package dates_test

import (
	"math/rand"
	"slices"
	"testing"

	"corrody/api"
	"corrody/dates"
)

// P6.1: Ends.
func TestEndsExamples(t *testing.T) {
	for _, c := range []struct {
		l           []dates.Job
		order, want []int
	}{
		{three(), []int{0, 1, 2}, []int{2, 5, 7}},
		{three(), []int{2, 1, 0}, []int{7, 5, 2}},
		{three(), []int{1, 2, 0}, []int{7, 3, 5}},
		// A row begins at 0, whatever the Release.
		{two(), []int{1, 0}, []int{7, 2}},
		{gaps(), []int{3, 0, 2, 1}, []int{3, 7, 6, 1}},
		{single(), []int{0}, []int{1}},
		{greatest(), []int{7, 6, 5, 4, 3, 2, 1, 0}, []int{160, 140, 120, 100, 80, 60, 40, 20}},
	} {
		if ends, e := dates.Ends(c.l, c.order); !slices.Equal(ends, c.want) || e != api.OK {
			t.Error(c.l, c.order, ends, e)
		}
	}
}

// P6.1: Ends, by the definition, and that nothing but an order is one.
func TestEndsOfMany(t *testing.T) {
	cases(500, 8, 20, func(l []dates.Job, r *rand.Rand) {
		order := r.Perm(len(l))
		if ends, e := dates.Ends(l, order); !slices.Equal(ends, endsIn(l, order)) || e != api.OK {
			t.Fatal(l, order, ends, e)
		}
		at := r.Intn(len(l))
		for _, x := range []int{-1, len(l), 8, 64, 1<<63 - 1, -1 << 63, order[(at+1)%len(l)]} {
			bad := slices.Clone(order)
			bad[at] = x
			if len(l) == 1 && x == 0 {
				continue
			}
			if ends, e := dates.Ends(l, bad); len(ends) != 0 || e != api.ErrArg {
				t.Fatal(l, bad, ends, e)
			}
		}
		for _, bad := range [][]int{nil, order[1:], append(order, 0), append(order, len(l)), make([]int, 100000)} {
			if ends, e := dates.Ends(l, bad); len(ends) != 0 || e != api.ErrArg {
				t.Fatal(l, bad, ends, e)
			}
		}
	})
}

// P6.2: Most and Weigh.
func TestOnTimeExamples(t *testing.T) {
	for _, c := range []struct {
		l                []dates.Job
		most, heavy, sum int
	}{
		// 0 and 2, or 1 and 2, but not 0 and 1.
		{three(), 5, 6, 10},
		// Sets with the same sum: the least number, which need not have the most jobs.
		{two(), 3, 0, 0},
		// A job that is due at 0 is never on time.
		{single(), 0, 0, 0},
		{jobsOf([4]int{1, 0, 0, 20}, [4]int{1, 0, 1, 0}), 2, 0, 0},
		{jobsOf([4]int{1, 0, 1, 20}), 1, 1, 20},
		// The jobs begin at 0, whatever their Release.
		{gaps(), 15, 13, 6},
		{same(), 7, 7, 12},
		{greatest(), 255, 255, 160},
		{early(), 0, 0, 0},
		// A job that is due late may have to be left out.
		{jobsOf([4]int{9, 0, 9, 5}, [4]int{3, 0, 10, 2}, [4]int{3, 0, 10, 2}), 6, 1, 5},
		{jobsOf([4]int{9, 0, 9, 4}, [4]int{3, 0, 10, 2}, [4]int{3, 0, 10, 2}), 6, 1, 4},
		{jobsOf([4]int{9, 0, 9, 3}, [4]int{3, 0, 10, 2}, [4]int{3, 0, 10, 2}), 6, 6, 4},
		// Jobs of the Weight 0 are left out.
		{jobsOf([4]int{1, 0, 9, 0}, [4]int{1, 0, 9, 2}, [4]int{1, 0, 9, 0}), 7, 2, 2},
		// Of the sets with the most jobs the least, and not the first in order.
		{jobsOf([4]int{2, 0, 3, 1}, [4]int{2, 0, 3, 1}, [4]int{2, 0, 3, 1}), 1, 1, 1},
		{jobsOf([4]int{1, 0, 3, 1}, [4]int{2, 0, 3, 1}, [4]int{2, 0, 3, 1}), 3, 3, 2},
		{jobsOf([4]int{2, 0, 3, 1}, [4]int{1, 0, 3, 1}, [4]int{1, 0, 3, 1}, [4]int{1, 0, 3, 1}), 14, 14, 3},
		{jobsOf([4]int{2, 0, 3, 1}, [4]int{1, 0, 3, 1}, [4]int{1, 0, 3, 1}, [4]int{1, 0, 4, 1}), 11, 11, 3},
	} {
		if set, e := dates.Most(c.l); set != c.most || e != api.OK {
			t.Error(c.l, set, e)
		}
		if set, sum, e := dates.Weigh(c.l); set != c.heavy || sum != c.sum || e != api.OK {
			t.Error(c.l, set, sum, e)
		}
	}
}

// setsOnTime tells which sets of jobs can all be on time in some row, by trying all orders.
func setsOnTime(l []dates.Job) []bool {
	can := make([]bool, 1<<len(l))
	for _, order := range orders(len(l)) {
		set := 0
		for k, end := range endsIn(l, order) {
			if end <= l[k].Due {
				set |= 1 << k
			}
		}
		for part := range can {
			if part&set == part {
				can[part] = true
			}
		}
	}
	return can
}

// P6.2: Most and Weigh, by the definition. P6.9: Most has at least as many jobs as any set that can be on time.
func TestOnTimeOfMany(t *testing.T) {
	different, part := 0, 0
	cases(600, 6, 12, func(l []dates.Job, r *rand.Rand) {
		most, size, heavy, weight := 0, 0, 0, 0
		for set, can := range setsOnTime(l) {
			if !can {
				continue
			}
			jobs, sum := 0, 0
			for k, job := range l {
				if set&(1<<k) != 0 {
					jobs++
					sum += job.Weight
				}
			}
			if jobs > size {
				most, size = set, jobs
			}
			if sum > weight {
				heavy, weight = set, sum
			}
		}
		if set, e := dates.Most(l); set != most || e != api.OK {
			t.Fatal(l, set, most, e)
		}
		if set, sum, e := dates.Weigh(l); set != heavy || sum != weight || e != api.OK {
			t.Fatal(l, set, sum, heavy, weight, e)
		}
		if most != heavy && weight > 0 {
			different++
		}
		if size > 0 && size < len(l) {
			part++
		}
	})
	if different < 40 || part < 100 {
		t.Error("too few of a kind", different, part)
	}
}

// P6.3: Least.
func TestLeastExamples(t *testing.T) {
	for _, c := range []struct {
		l      []dates.Job
		before [][2]int
		want   []int
		delay  int
	}{
		{three(), nil, []int{0, 1, 2}, 2},
		{three(), [][2]int{}, []int{0, 1, 2}, 2},
		{three(), [][2]int{{2, 0}}, []int{2, 0, 1}, 3},
		{three(), [][2]int{{2, 1}, {1, 0}}, []int{2, 1, 0}, 5},
		{three(), [][2]int{{1, 0}, {1, 0}, {1, 2}}, []int{1, 0, 2}, 3},
		{three(), [][2]int{{0, 1}}, []int{0, 1, 2}, 2},
		{two(), nil, []int{1, 0}, -2},
		{jobsOf([4]int{1, 0, 9, 0}, [4]int{3, 0, 3, 0}, [4]int{1, 0, 4, 0}), nil, []int{1, 2, 0}, 0},
		{jobsOf([4]int{1, 0, 9, 0}, [4]int{3, 0, 3, 0}, [4]int{1, 0, 4, 0}), [][2]int{{2, 1}}, []int{2, 1, 0}, 1},
		// The first order need not be that by Due.
		{jobsOf([4]int{1, 0, 10, 0}, [4]int{3, 0, 1, 0}, [4]int{1, 0, 8, 0}), nil, []int{1, 0, 2}, 2},
		{single(), nil, []int{0}, 1},
		{gaps(), nil, []int{0, 1, 2, 3}, -10},
		{same(), nil, []int{0, 1, 2, 3, 4}, 6},
		{same(), [][2]int{{4, 0}, {3, 1}}, []int{2, 3, 1, 4, 0}, 6},
		{greatest(), nil, []int{0, 1, 2, 3, 4, 5, 6, 7}, -40},
		{early(), nil, []int{0, 1, 2, 3, 4, 5, 6, 7}, 160},
		{jobsOf([4]int{1, 0, 200, 0}), nil, []int{0}, -199},
		{greatest(), [][2]int{{7, 6}, {6, 5}, {5, 4}, {4, 3}, {3, 2}, {2, 1}, {1, 0}, {7, 0}, {7, 1}, {7, 2}, {7, 3}, {7, 4}, {7, 5}, {6, 0}, {6, 1}, {6, 2}}, []int{7, 6, 5, 4, 3, 2, 1, 0}, -40},
	} {
		if order, x, e := dates.Least(c.l, c.before); !slices.Equal(order, c.want) || x != c.delay || e != api.OK {
			t.Error(c.l, c.before, order, x, e)
		}
	}
}

// P6.3: befores that no order keeps.
func TestLeastLoops(t *testing.T) {
	for _, before := range [][][2]int{
		{{1, 1}},
		{{0, 0}, {0, 1}},
		{{0, 1}, {1, 0}},
		{{0, 1}, {1, 2}, {2, 0}},
		{{0, 3}, {3, 1}, {2, 1}, {1, 0}},
		{{0, 1}, {0, 2}, {0, 3}, {3, 3}},
		slices.Repeat([][2]int{{2, 2}}, 16),
		append(slices.Repeat([][2]int{{0, 1}}, 15), [2]int{1, 0}),
	} {
		if order, x, e := dates.Least(gaps(), before); len(order) != 0 || x != 0 || e != api.ErrLoop {
			t.Error(before, order, x, e)
		}
	}
}

// P6.3: Least, by trying all orders.
func TestLeastOfMany(t *testing.T) {
	loops, other, dear := 0, 0, 0
	cases(1000, 6, 12, func(l []dates.Job, r *rand.Rand) {
		before := someBefores(l, r)
		var want []int
		least, free := 0, 0
		for k, order := range orders(len(l)) {
			x := latest(l, endsIn(l, order))
			if k == 0 || x < free {
				free = x
			}
			if keeps(order, before) && (want == nil || x < least) {
				want, least = order, x
			}
		}
		order, x, e := dates.Least(l, before)
		if want == nil {
			loops++
			if len(order) != 0 || x != 0 || e != api.ErrLoop {
				t.Fatal(l, before, order, x, e)
			}
			return
		}
		if !slices.Equal(order, want) || x != least || e != api.OK {
			t.Fatal(l, before, order, x, e, want, least)
		}
		if !slices.IsSorted(want) {
			other++
		}
		if least > free {
			dear++
		}
	})
	if loops < 50 || other < 150 || dear < 50 {
		t.Error("too few of a kind", loops, other, dear)
	}
}

// P6.3: Least of as many jobs as there can be, by trying all orders.
func TestLeastOfEight(t *testing.T) {
	r := rand.New(rand.NewSource(3))
	all := orders(8)
	for range 12 {
		l := make([]dates.Job, 8)
		for k := range l {
			l[k] = dates.Job{Time: 1 + r.Intn(5), Due: r.Intn(20)}
		}
		a, b := r.Intn(8), r.Intn(7)
		before := [][2]int{{a, (a + b + 1) % 8}}
		var want []int
		least := 0
		for _, order := range all {
			if !keeps(order, before) {
				continue
			}
			if x := latest(l, endsIn(l, order)); want == nil || x < least {
				want, least = order, x
			}
		}
		if order, x, e := dates.Least(l, before); !slices.Equal(order, want) || x != least || e != api.OK {
			t.Fatal(l, before, order, x, e, want, least)
		}
	}
}

// P6.1 to P6.3: invalid jobs and befores. ErrArg comes before ErrLoop.
func TestRowErrors(t *testing.T) {
	for k, l := range badJobs() {
		for _, order := range [][]int{nil, {0}, {0, 1, 2, 3, 4, 5, 6, 7}, {1}} {
			if ends, e := dates.Ends(l, order); len(ends) != 0 || e != api.ErrArg {
				t.Error(k, order, ends, e)
			}
		}
		if set, e := dates.Most(l); set != 0 || e != api.ErrArg {
			t.Error(k, set, e)
		}
		if set, sum, e := dates.Weigh(l); set != 0 || sum != 0 || e != api.ErrArg {
			t.Error(k, set, sum, e)
		}
		for _, before := range [][][2]int{nil, {{0, 0}}, {{0, 1}, {1, 0}}, {{-1, 0}}} {
			if order, x, e := dates.Least(l, before); len(order) != 0 || x != 0 || e != api.ErrArg {
				t.Error(k, before, order, x, e)
			}
		}
	}
	for _, l := range append(examples(), greatest()[:7]) {
		for _, bad := range []int{-1, len(l), len(l) + 1, 8, 63, 64, 1<<63 - 1, -1 << 63} {
			for _, before := range [][][2]int{{{bad, 0}}, {{0, bad}}, {{bad, bad}}, {{0, 0}, {0, bad}}, {{bad, 0}, {0, 0}}} {
				if order, x, e := dates.Least(l, before); len(order) != 0 || x != 0 || e != api.ErrArg {
					t.Error(l, before, order, x, e)
				}
			}
		}
		for _, size := range []int{17, 64, 100000} {
			before := make([][2]int, size)
			if order, x, e := dates.Least(l, before); len(order) != 0 || x != 0 || e != api.ErrArg {
				t.Error(l, size, order, x, e)
			}
		}
	}
	if order, x, e := dates.Least(three(), slices.Repeat([][2]int{{2, 0}}, 17)); len(order) != 0 || x != 0 || e != api.ErrArg {
		t.Error(order, x, e)
	}
	if order, x, e := dates.Least(three(), slices.Repeat([][2]int{{2, 0}}, 16)); !slices.Equal(order, []int{2, 0, 1}) || x != 3 || e != api.OK {
		t.Error(order, x, e)
	}
}
