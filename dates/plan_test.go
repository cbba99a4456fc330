package dates_test

import (
	"math/rand"
	"slices"
	"testing"

	"corrody/api"
	"corrody/dates"
)

// P6.4, P6.6 and P6.7: Plan, Delay and Short.
func TestPlanExamples(t *testing.T) {
	for _, c := range []struct {
		l         []dates.Job
		plan      []dates.Piece
		delay     int
		short     []dates.Piece
		sumOfEnds int
	}{
		{three(), []dates.Piece{{0, 0, 2}, {1, 2, 5}, {2, 5, 7}}, 2, []dates.Piece{{0, 0, 2}, {2, 2, 4}, {1, 4, 7}}, 13},
		{two(), []dates.Piece{{0, 0, 1}, {1, 1, 3}, {0, 3, 7}}, -1, []dates.Piece{{0, 0, 1}, {1, 1, 3}, {0, 3, 7}}, 10},
		{single(), []dates.Piece{{0, 0, 1}}, 1, []dates.Piece{{0, 0, 1}}, 1},
		// Time passes in which nothing is done only while nothing is released.
		{gaps(), []dates.Piece{{1, 0, 1}, {0, 10, 12}, {2, 12, 15}, {3, 30, 31}}, 1, []dates.Piece{{1, 0, 1}, {0, 10, 12}, {2, 12, 15}, {3, 30, 31}}, 59},
		// Of equal ones the least index goes first.
		{same(), []dates.Piece{{0, 2, 5}, {1, 5, 8}, {2, 8, 11}, {3, 11, 14}, {4, 14, 17}}, 8, []dates.Piece{{0, 2, 5}, {1, 5, 8}, {2, 8, 11}, {3, 11, 14}, {4, 14, 17}}, 55},
		// It also does if the other one is being worked on, and has as much left.
		{jobsOf([4]int{2, 1, 9, 0}, [4]int{3, 0, 9, 0}), []dates.Piece{{1, 0, 1}, {0, 1, 3}, {1, 3, 5}}, -4, []dates.Piece{{1, 0, 1}, {0, 1, 3}, {1, 3, 5}}, 8},
		{jobsOf([4]int{3, 0, 9, 0}, [4]int{2, 1, 9, 0}), []dates.Piece{{0, 0, 3}, {1, 3, 5}}, -4, []dates.Piece{{0, 0, 3}, {1, 3, 5}}, 8},
		// What is left counts, and not the whole Time.
		{jobsOf([4]int{4, 0, 9, 0}, [4]int{3, 2, 5, 0}), []dates.Piece{{0, 0, 2}, {1, 2, 5}, {0, 5, 7}}, 0, []dates.Piece{{0, 0, 4}, {1, 4, 7}}, 11},
		// A job that was left is gone on with later, and so is one that is due before.
		{jobsOf([4]int{5, 0, 30, 0}, [4]int{4, 1, 20, 0}, [4]int{1, 2, 10, 0}), []dates.Piece{{0, 0, 1}, {1, 1, 2}, {2, 2, 3}, {1, 3, 6}, {0, 6, 10}}, -7, []dates.Piece{{0, 0, 2}, {2, 2, 3}, {0, 3, 6}, {1, 6, 10}}, 19},
		// A job that ends as the next one is released, and one that is released as nothing else is left.
		{jobsOf([4]int{2, 0, 2, 0}, [4]int{2, 2, 5, 0}, [4]int{2, 5, 6, 0}), []dates.Piece{{0, 0, 2}, {1, 2, 4}, {2, 5, 7}}, 1, []dates.Piece{{0, 0, 2}, {1, 2, 4}, {2, 5, 7}}, 13},
		// A job that is due before it is released.
		{jobsOf([4]int{1, 5, 3, 0}), []dates.Piece{{0, 5, 6}}, 3, []dates.Piece{{0, 5, 6}}, 6},
		{jobsOf([4]int{1, 0, 200, 0}), []dates.Piece{{0, 0, 1}}, -199, []dates.Piece{{0, 0, 1}}, 1},
		{greatest(), []dates.Piece{{0, 100, 120}, {1, 120, 140}, {2, 140, 160}, {3, 160, 180}, {4, 180, 200}, {5, 200, 220}, {6, 220, 240}, {7, 240, 260}}, 60, []dates.Piece{{0, 100, 120}, {1, 120, 140}, {2, 140, 160}, {3, 160, 180}, {4, 180, 200}, {5, 200, 220}, {6, 220, 240}, {7, 240, 260}}, 1520},
	} {
		if p, e := dates.Plan(c.l); !slices.Equal(p, c.plan) || e != api.OK {
			t.Error(c.l, p, e)
		}
		if x, e := dates.Delay(c.l); x != c.delay || e != api.OK {
			t.Error(c.l, x, e)
		}
		if p, sum, e := dates.Short(c.l); !slices.Equal(p, c.short) || sum != c.sumOfEnds || e != api.OK {
			t.Error(c.l, p, sum, e)
		}
	}
	if x := delay(t, early()); x != 260 {
		t.Error(x)
	}
}

// P6.4 and P6.7: Plan and Short, by the definition.
func TestPlanOfMany(t *testing.T) {
	cut, idle, different := 0, 0, 0
	cases(3000, 8, 20, func(l []dates.Job, r *rand.Rand) {
		p := plan(t, l)
		if want := planBy(l, func(a, b int, left []int) bool { return l[a].Due < l[b].Due }); !slices.Equal(p, want) {
			t.Fatal(l, p, want)
		}
		q, sum := short(t, l)
		if want := planBy(l, func(a, b int, left []int) bool { return left[a] < left[b] }); !slices.Equal(q, want) {
			t.Fatal(l, q, want)
		}
		if sum != sumOf(endsOf(t, l, q)) {
			t.Fatal(l, q, sum)
		}
		if len(p) > len(l) && len(q) > len(l) {
			cut++
		}
		for k := range p[1:] {
			if p[k].To < p[k+1].From {
				idle++
				break
			}
		}
		if !slices.Equal(p, q) {
			different++
		}
	})
	if cut < 200 || idle < 200 || different < 1000 {
		t.Error("too few of a kind", cut, idle, different)
	}
}

// P6.5: Overload.
func TestOverloadExamples(t *testing.T) {
	for _, c := range []struct {
		l    []dates.Job
		want [2]int
		e    api.Errno
	}{
		{three(), [2]int{0, 4}, api.OK},
		{two(), [2]int{}, api.ErrNone},
		{single(), [2]int{0, 0}, api.OK},
		{gaps(), [2]int{30, 30}, api.OK},
		{same(), [2]int{0, 9}, api.OK},
		// The least a comes first, also if the stretch ends later.
		{jobsOf([4]int{1, 5, 3, 0}), [2]int{3, 3}, api.OK},
		{jobsOf([4]int{2, 5, 3, 0}), [2]int{2, 3}, api.OK},
		{jobsOf([4]int{9, 20, 28, 0}, [4]int{9, 20, 29, 0}), [2]int{12, 29}, api.OK},
		// Of these the least b.
		{jobsOf([4]int{2, 0, 1, 0}, [4]int{9, 0, 10, 0}), [2]int{0, 1}, api.OK},
		{jobsOf([4]int{2, 0, 2, 0}, [4]int{9, 0, 10, 0}), [2]int{0, 10}, api.OK},
		// A job of another release or due is outside.
		{jobsOf([4]int{2, 1, 3, 0}, [4]int{9, 0, 11, 0}), [2]int{}, api.ErrNone},
		{jobsOf([4]int{2, 1, 3, 0}, [4]int{9, 0, 10, 0}), [2]int{0, 10}, api.OK},
		{jobsOf([4]int{2, 4, 6, 0}, [4]int{9, 3, 13, 0}), [2]int{3, 13}, api.OK},
		{jobsOf([4]int{2, 4, 6, 0}, [4]int{9, 3, 14, 0}), [2]int{}, api.ErrNone},
		{greatest(), [2]int{41, 200}, api.OK},
		{early(), [2]int{0, 0}, api.OK},
		{greatest()[:5], [2]int{}, api.ErrNone},
		{jobsOf([4]int{1, 100, 99, 0}), [2]int{99, 99}, api.OK},
		{jobsOf([4]int{1, 100, 100, 0}), [2]int{100, 100}, api.OK},
		{jobsOf([4]int{20, 100, 119, 0}), [2]int{100, 119}, api.OK},
		{jobsOf([4]int{20, 100, 120, 0}), [2]int{}, api.ErrNone},
	} {
		if s, e := dates.Overload(c.l); s != c.want || e != c.e {
			t.Error(c.l, s, e)
		}
	}
}

// firstOverload is the first overloaded stretch, by the definition, and whether there is one.
func firstOverload(l []dates.Job) ([2]int, bool) {
	for a := range 401 {
		for b := range 401 {
			if overloaded(l, a, b) {
				return [2]int{a, b}, true
			}
		}
	}
	return [2]int{}, false
}

// P6.5: Overload is the first overloaded stretch, and there is one if Plan has a late job.
func TestOverloadOfMany(t *testing.T) {
	found, none, later := 0, 0, 0
	cases(1000, 8, 20, func(l []dates.Job, r *rand.Rand) {
		s, e := dates.Overload(l)
		want, is := firstOverload(l)
		if late := latest(l, endsOf(t, l, plan(t, l))) > 0; late != is {
			t.Fatal(l, late, want)
		}
		if !is {
			none++
			if s != [2]int{} || e != api.ErrNone {
				t.Fatal(l, s, e)
			}
			return
		}
		found++
		if s != want || e != api.OK {
			t.Fatal(l, s, e, want)
		}
		if s[0] > 0 && s[0] < s[1] {
			later++
		}
	})
	if found < 200 || none < 200 || later < 30 {
		t.Error("too few of a kind", found, none, later)
	}
}

// P6.8: Check.
func TestCheckExamples(t *testing.T) {
	late := jobsOf([4]int{2, 3, 2, 0}, [4]int{1, 0, 0, 0})
	for _, c := range []struct {
		l    []dates.Job
		p    []dates.Piece
		want []int
	}{
		{two(), []dates.Piece{{0, 0, 1}, {1, 1, 3}, {0, 3, 7}}, []int{7, 3}},
		{two(), []dates.Piece{{0, 0, 5}, {1, 5, 7}}, []int{5, 7}},
		// A plan may pass time idle, also between two pieces of a job, and end as late as 1000.
		{two(), []dates.Piece{{1, 1, 2}, {1, 3, 4}, {0, 9, 10}, {0, 996, 1000}}, []int{1000, 4}},
		{two(), []dates.Piece{{1, 998, 1000}, {0, 1000, 1005}}, nil},
		{two(), []dates.Piece{{1, 1, 3}, {0, 996, 1001}}, nil},
		{two(), []dates.Piece{{1, 1, 3}, {0, 995, 1000}}, []int{1000, 3}},
		// Neighbours without a gap, of the same job.
		{two(), []dates.Piece{{1, 1, 2}, {1, 2, 3}, {0, 3, 8}}, nil},
		{two(), []dates.Piece{{0, 0, 3}, {0, 3, 5}, {1, 5, 7}}, nil},
		{two(), []dates.Piece{{0, 0, 3}, {1, 3, 5}, {0, 5, 6}, {0, 6, 7}}, nil},
		// Pieces in another order, and two at a time.
		{two(), []dates.Piece{{1, 5, 7}, {0, 0, 5}}, nil},
		{two(), []dates.Piece{{0, 0, 5}, {1, 4, 6}}, nil},
		{two(), []dates.Piece{{0, 0, 5}, {1, 1, 3}}, nil},
		{two(), []dates.Piece{{0, 2, 7}, {1, 1, 2}, {1, 7, 8}}, nil},
		// Pieces of no time, or the other way round.
		{two(), []dates.Piece{{0, 0, 5}, {1, 5, 7}, {0, 7, 7}}, nil},
		{two(), []dates.Piece{{0, 0, 0}, {0, 0, 5}, {1, 5, 7}}, nil},
		{two(), []dates.Piece{{0, 0, 6}, {1, 6, 8}, {0, 9, 8}}, nil},
		{two(), []dates.Piece{{0, 5, 0}, {1, 5, 7}}, nil},
		// Too little of a job, too much of it, or nothing.
		{two(), []dates.Piece{{0, 0, 4}, {1, 5, 7}}, nil},
		{two(), []dates.Piece{{0, 0, 5}, {1, 5, 6}}, nil},
		{two(), []dates.Piece{{0, 0, 5}, {1, 5, 8}}, nil},
		{two(), []dates.Piece{{0, 0, 6}, {1, 6, 8}}, nil},
		{two(), []dates.Piece{{0, 0, 4}, {1, 4, 7}}, nil},
		{two(), []dates.Piece{{0, 0, 5}, {1, 5, 7}, {0, 8, 9}}, nil},
		{two(), []dates.Piece{{0, 0, 5}}, nil},
		{two(), nil, nil},
		{two(), []dates.Piece{}, nil},
		{two(), make([]dates.Piece, 100000), nil},
		// A piece before the Release.
		{two(), []dates.Piece{{1, 0, 2}, {0, 2, 7}}, nil},
		{two(), []dates.Piece{{1, 0, 1}, {0, 1, 6}, {1, 6, 7}}, nil},
		{two(), []dates.Piece{{0, -1, 4}, {1, 4, 6}}, nil},
		{two(), []dates.Piece{{0, -5, 0}, {1, 1, 3}}, nil},
		{late, []dates.Piece{{1, 2, 3}, {0, 3, 5}}, []int{5, 3}},
		{late, []dates.Piece{{0, 2, 4}, {1, 4, 5}}, nil},
		{late, []dates.Piece{{1, 0, 1}, {0, 4, 5}, {0, 6, 7}}, []int{7, 1}},
		// Pieces of no job.
		{two(), []dates.Piece{{0, 0, 5}, {1, 5, 7}, {2, 7, 8}}, nil},
		{two(), []dates.Piece{{0, 0, 5}, {-1, 5, 7}}, nil},
		{two(), []dates.Piece{{0, 0, 5}, {1, 5, 7}, {-1 << 63, 7, 8}}, nil},
		{two(), []dates.Piece{{1<<63 - 1, 0, 1}, {0, 1, 6}, {1, 6, 8}}, nil},
		{single(), []dates.Piece{{-1, 0, 1}}, nil},
		{single(), []dates.Piece{{1, 0, 1}}, nil},
		{single(), []dates.Piece{{64, 0, 1}}, nil},
		// Times of any size.
		{single(), []dates.Piece{{0, 999, 1000}}, []int{1000}},
		{single(), []dates.Piece{{0, 1000, 1001}}, nil},
		{single(), []dates.Piece{{0, 1<<63 - 2, 1<<63 - 1}}, nil},
		{single(), []dates.Piece{{0, 1<<63 - 1, -1 << 63}}, nil},
		{single(), []dates.Piece{{0, -1 << 63, 1<<63 - 1}}, nil},
		{single(), []dates.Piece{{0, -1 << 63, -1<<63 + 1}}, nil},
		{single(), []dates.Piece{{0, -1, 0}}, nil},
	} {
		ends, whole := check(t, c.l, c.p)
		if _, right := doneAt(c.l, c.p); !slices.Equal(ends, c.want) || whole != (c.want != nil) || whole != right {
			t.Error(c.l, c.p, ends, whole, right)
		}
	}
}

// nearly returns pieces with something changed, so that they may still be a whole plan.
func nearly(p []dates.Piece, jobs int, r *rand.Rand) []dates.Piece {
	p = slices.Clone(p)
	at := r.Intn(len(p))
	switch r.Intn(9) {
	case 0:
		p[at].From += r.Intn(3) - 1
	case 1:
		p[at].To += r.Intn(3) - 1
	case 2:
		p[at].Job = r.Intn(jobs+2) - 1
	case 3:
		other := r.Intn(len(p))
		p[at], p[other] = p[other], p[at]
	case 4:
		middle := p[at].From + r.Intn(p[at].To-p[at].From+1)
		p = slices.Insert(p, at+1, dates.Piece{Job: p[at].Job, From: middle, To: p[at].To})
		p[at].To = middle
	case 5:
		p = slices.Delete(p, at, at+1)
	case 6:
		move(p[at:], r.Intn(5)-2)
	case 7:
		move(p[at:], 999+r.Intn(3)-p[len(p)-1].To)
	}
	return p
}

// P6.8: Check, by the definition, for plans that are nearly whole.
func TestCheckOfMany(t *testing.T) {
	right, wrong := 0, 0
	cases(4000, 5, 5, func(l []dates.Job, r *rand.Rand) {
		p := nearly(randomPlan(l, r), len(l), r)
		ends, whole := check(t, l, p)
		worked, want := doneAt(l, p)
		if whole != want {
			t.Fatal(l, p, whole)
		}
		if !whole {
			wrong++
			return
		}
		right++
		for k, end := range ends {
			if worked[end-1] != k || slices.Contains(worked[end:], k) {
				t.Fatal(l, p, ends)
			}
		}
	})
	if right < 500 || wrong < 1000 {
		t.Error("too few of a kind", right, wrong)
	}
}

// P6.8: Check, by the definition, for all short slices of small pieces.
func TestCheckOfAll(t *testing.T) {
	var small []dates.Piece
	for job := -1; job <= 2; job++ {
		for from := -1; from <= 4; from++ {
			for to := -1; to <= 4; to++ {
				small = append(small, dates.Piece{Job: job, From: from, To: to})
			}
		}
	}
	accepted := 0
	for _, l := range [][]dates.Job{jobsOf([4]int{1, 0, 0, 0}), jobsOf([4]int{2, 1, 0, 0}), jobsOf([4]int{2, 0, 0, 0}, [4]int{1, 1, 9, 0})} {
		for _, first := range small {
			for b := -1; b < len(small); b++ {
				p := []dates.Piece{first}
				if b >= 0 {
					p = append(p, small[b])
				}
				_, whole := check(t, l, p)
				if _, want := doneAt(l, p); whole != want {
					t.Fatal(l, p, whole)
				}
				if whole {
					accepted++
				}
			}
		}
	}
	if accepted < 10 {
		t.Error("too few accepted", accepted)
	}
}

// P6.4 to P6.8: invalid jobs.
func TestPlanErrors(t *testing.T) {
	for k, l := range badJobs() {
		if p, e := dates.Plan(l); len(p) != 0 || e != api.ErrArg {
			t.Error(k, p, e)
		}
		if s, e := dates.Overload(l); s != [2]int{} || e != api.ErrArg {
			t.Error(k, s, e)
		}
		if x, e := dates.Delay(l); x != 0 || e != api.ErrArg {
			t.Error(k, x, e)
		}
		if p, sum, e := dates.Short(l); len(p) != 0 || sum != 0 || e != api.ErrArg {
			t.Error(k, p, sum, e)
		}
		for _, p := range [][]dates.Piece{nil, {{0, 0, 1}}, {{0, 0, 0}}, {{-1, 0, 1}}} {
			if ends, whole, e := dates.Check(l, p); len(ends) != 0 || whole || e != api.ErrArg {
				t.Error(k, p, ends, whole, e)
			}
		}
	}
}
