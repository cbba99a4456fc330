package dates_test

import (
	"math/rand"
	"slices"
	"testing"

	"corrody/api"
	"corrody/dates"
)

// jobsOf are jobs as they are written: Time, Release, Due and Weight.
func jobsOf(rows ...[4]int) []dates.Job {
	var l []dates.Job
	for _, row := range rows {
		l = append(l, dates.Job{Time: row[0], Release: row[1], Due: row[2], Weight: row[3]})
	}
	return l
}

// three is the chapter's first example.
func three() []dates.Job { return jobsOf([4]int{2, 0, 2, 1}, [4]int{3, 0, 4, 9}, [4]int{2, 0, 5, 1}) }

// two is the chapter's third example.
func two() []dates.Job { return jobsOf([4]int{5, 0, 20, 0}, [4]int{2, 1, 4, 0}) }

// single is the least job there is.
func single() []dates.Job { return jobsOf([4]int{1, 0, 0, 0}) }

// gaps leaves time in which nothing can be done.
func gaps() []dates.Job {
	return jobsOf([4]int{2, 10, 12, 3}, [4]int{1, 0, 200, 0}, [4]int{3, 11, 20, 2}, [4]int{1, 30, 30, 1})
}

// same has jobs that are all alike.
func same() []dates.Job { return slices.Repeat(jobsOf([4]int{3, 2, 9, 4}), 5) }

// greatest has the greatest numbers of all kinds.
func greatest() []dates.Job { return slices.Repeat(jobsOf([4]int{20, 100, 200, 20}), api.MaxJobs) }

// early has jobs of the greatest Time that are due at 0.
func early() []dates.Job { return slices.Repeat(jobsOf([4]int{20, 100, 0, 0}), api.MaxJobs) }

func examples() [][]dates.Job {
	return [][]dates.Job{three(), two(), single(), gaps(), same(), greatest(), early()}
}

// randomJobs are at most so many jobs, of at most such a Time. Small numbers are frequent, as they make jobs alike.
func randomJobs(r *rand.Rand, jobs, most int) []dates.Job {
	most = 1 + r.Intn(most)
	release := []int{0, 2, most * 2, 100}[r.Intn(4)]
	due := []int{5, most * 3, most * 6, 200}[r.Intn(4)]
	weight := []int{0, 1, 3, 20}[r.Intn(4)]
	l := make([]dates.Job, 1+r.Intn(jobs))
	for k := range l {
		l[k] = dates.Job{Time: 1 + r.Intn(most), Release: r.Intn(min(release, 100) + 1), Due: r.Intn(min(due, 200) + 1), Weight: r.Intn(weight + 1)}
	}
	return l
}

// cases calls f with the examples that have no more jobs, and with count jobs from a fixed sequence.
func cases(count, jobs, most int, f func(l []dates.Job, r *rand.Rand)) {
	r := rand.New(rand.NewSource(1))
	for _, l := range examples() {
		if len(l) <= jobs {
			f(l, r)
		}
	}
	for range count {
		f(randomJobs(r, jobs, most), r)
	}
}

// someBefores are befores of any kind, of which many can be kept.
func someBefores(l []dates.Job, r *rand.Rand) [][2]int {
	order := r.Perm(len(l))
	var before [][2]int
	for range r.Intn(2 * len(l)) {
		a, b := r.Intn(len(l)), r.Intn(len(l))
		if r.Intn(20) > 0 && a > b {
			a, b = b, a
		}
		if a != b || r.Intn(20) == 0 {
			before = append(before, [2]int{order[a], order[b]})
		}
	}
	return before[:min(len(before), 16)]
}

// orders are all orders of n jobs, the first one first.
func orders(n int) [][]int {
	all := [][]int{nil}
	for range n {
		var longer [][]int
		for _, order := range all {
			for job := range n {
				if !slices.Contains(order, job) {
					longer = append(longer, append(slices.Clone(order), job))
				}
			}
		}
		all = longer
	}
	return all
}

// endsIn are the ends of jobs in a row, by the definition.
func endsIn(l []dates.Job, order []int) []int {
	ends := make([]int, len(l))
	for at, job := range order {
		for _, other := range order[:at+1] {
			ends[job] += l[other].Time
		}
	}
	return ends
}

// latest is the greatest delay of jobs with such ends.
func latest(l []dates.Job, ends []int) int {
	worst := ends[0] - l[0].Due
	for k, job := range l {
		worst = max(worst, ends[k]-job.Due)
	}
	return worst
}

// keeps reports whether an order keeps befores.
func keeps(order []int, before [][2]int) bool {
	for _, pair := range before {
		if slices.Index(order, pair[0]) >= slices.Index(order, pair[1]) {
			return false
		}
	}
	return true
}

func sumOf(l []int) int {
	sum := 0
	for _, x := range l {
		sum += x
	}
	return sum
}

// plan fails if there is an error, and else returns Plan.
func plan(t *testing.T, l []dates.Job) []dates.Piece {
	t.Helper()
	p, e := dates.Plan(l)
	if e != api.OK {
		t.Fatal(l, p, e)
	}
	return p
}

// short fails if there is an error, and else returns Short.
func short(t *testing.T, l []dates.Job) ([]dates.Piece, int) {
	t.Helper()
	p, sum, e := dates.Short(l)
	if e != api.OK {
		t.Fatal(l, p, sum, e)
	}
	return p, sum
}

func delay(t *testing.T, l []dates.Job) int {
	t.Helper()
	x, e := dates.Delay(l)
	if e != api.OK {
		t.Fatal(l, x, e)
	}
	return x
}

// check fails if there is an error, and else returns Check.
func check(t *testing.T, l []dates.Job, p []dates.Piece) ([]int, bool) {
	t.Helper()
	ends, whole, e := dates.Check(l, p)
	if e != api.OK || !whole && len(ends) != 0 || whole && len(ends) != len(l) {
		t.Fatal(l, p, ends, whole, e)
	}
	return ends, whole
}

// endsOf fails if p is no whole plan, and else returns its ends.
func endsOf(t *testing.T, l []dates.Job, p []dates.Piece) []int {
	t.Helper()
	ends, whole := check(t, l, p)
	if !whole {
		t.Fatal(l, p)
	}
	return ends
}

// doneAt is the job that a plan works on in each unit of time, or -1, and whether it is a whole plan, by the definition.
func doneAt(l []dates.Job, p []dates.Piece) ([]int, bool) {
	worked := slices.Repeat([]int{-1}, 1000)
	done := make([]int, len(l))
	for k, piece := range p {
		if piece.Job < 0 || piece.Job >= len(l) || piece.From < 0 || piece.To > 1000 || piece.From >= piece.To {
			return nil, false
		}
		if k > 0 && (p[k-1].To > piece.From || p[k-1].To == piece.From && p[k-1].Job == piece.Job) {
			return nil, false
		}
		for at := piece.From; at < piece.To; at++ {
			if at < l[piece.Job].Release {
				return nil, false
			}
			worked[at] = piece.Job
			done[piece.Job]++
		}
	}
	for k, job := range l {
		if done[k] != job.Time {
			return nil, false
		}
	}
	return worked, true
}

// pieces are the pieces of a plan that works on such a job in each unit of time, or on none if it is -1.
func pieces(worked []int) []dates.Piece {
	var p []dates.Piece
	for at, job := range worked {
		if job < 0 {
			continue
		}
		if at > 0 && worked[at-1] == job {
			p[len(p)-1].To++
			continue
		}
		p = append(p, dates.Piece{Job: job, From: at, To: at + 1})
	}
	return p
}

// move adds a number to the times of pieces.
func move(p []dates.Piece, by int) {
	for k := range p {
		p[k].From += by
		p[k].To += by
	}
}

// planBy is the plan that works, in each unit of time, on the first of the jobs that are released and not finished, by an order that may depend on what is left.
func planBy(l []dates.Job, before func(a, b int, left []int) bool) []dates.Piece {
	left := make([]int, len(l))
	for k, job := range l {
		left[k] = job.Time
	}
	var worked []int
	for at := range 300 {
		next := -1
		for k, job := range l {
			if left[k] > 0 && at >= job.Release && (next < 0 || before(k, next, left)) {
				next = k
			}
		}
		if next >= 0 {
			left[next]--
		}
		worked = append(worked, next)
	}
	return pieces(worked)
}

// randomPlan is a whole plan of any kind.
func randomPlan(l []dates.Job, r *rand.Rand) []dates.Piece {
	left, idle := make([]int, len(l)), r.Intn(3)
	for k, job := range l {
		left[k] = job.Time
	}
	var worked []int
	last := 0
	for sumOf(left) > 0 {
		at, next := len(worked), -1
		if r.Intn(10) < idle {
			worked = append(worked, -1)
			continue
		}
		for _, k := range append([]int{last}, r.Perm(len(l))...) {
			if left[k] > 0 && at >= l[k].Release && (next < 0 || next == last && r.Intn(4) == 0) {
				next = k
			}
		}
		if next >= 0 {
			left[next]--
			last = next
		}
		worked = append(worked, next)
	}
	return pieces(worked)
}

// bestPlans are the least greatest delay and the least sum of ends of all whole plans, also of those that pass time idle. It tries, in each unit of time, all that can be done.
func bestPlans(l []dates.Job) (int, int) {
	end := 0
	for _, job := range l {
		end = max(end, job.Release)
	}
	for _, job := range l {
		end += job.Time
	}
	type state struct {
		at   int
		left [8]int
	}
	type best struct {
		delay, sum int
		can        bool
	}
	seen := map[state]best{}
	var try func(s state) best
	try = func(s state) best {
		if s.left == [8]int{} {
			return best{delay: -1000, can: true}
		}
		if s.at == end {
			return best{}
		}
		if b, ok := seen[s]; ok {
			return b
		}
		all := try(state{s.at + 1, s.left})
		for k, job := range l {
			if s.left[k] == 0 || s.at < job.Release {
				continue
			}
			next := state{s.at + 1, s.left}
			next.left[k]--
			b := try(next)
			if !b.can {
				continue
			}
			if next.left[k] == 0 {
				b.delay, b.sum = max(b.delay, s.at+1-job.Due), b.sum+s.at+1
			}
			if !all.can {
				all = b
			}
			all.delay, all.sum = min(all.delay, b.delay), min(all.sum, b.sum)
		}
		seen[s] = all
		return all
	}
	var s state
	for k, job := range l {
		s.left[k] = job.Time
	}
	b := try(s)
	return b.delay, b.sum
}

// canEnd reports whether some whole plan has every job end at its Due and x, or before: it looks for a unit of time of its own for each unit of work.
func canEnd(l []dates.Job, x int) bool {
	owner := map[int]int{}
	var place func(job int, tried map[int]bool) bool
	place = func(job int, tried map[int]bool) bool {
		for at := l[job].Release; at < min(l[job].Due+x, 300); at++ {
			if tried[at] {
				continue
			}
			tried[at] = true
			other, taken := owner[at]
			if !taken || place(other, tried) {
				owner[at] = job
				return true
			}
		}
		return false
	}
	for k, job := range l {
		for range job.Time {
			if !place(k, map[int]bool{}) {
				return false
			}
		}
	}
	return true
}

// overloaded reports whether a stretch is overloaded.
func overloaded(l []dates.Job, a, b int) bool {
	sum := 0
	for _, job := range l {
		if a <= job.Release && job.Due <= b {
			sum += job.Time
		}
	}
	return a <= b && sum > b-a
}

// badJobs are no jobs.
func badJobs() [][]dates.Job {
	good := dates.Job{Time: 1, Due: 10}
	all := [][]dates.Job{
		nil,
		{},
		slices.Repeat([]dates.Job{good}, 9),
		slices.Repeat([]dates.Job{good}, 64),
		slices.Repeat([]dates.Job{good}, 100000),
	}
	for at := range api.MaxJobs {
		for _, bad := range jobsOf(
			[4]int{0, 0, 10, 0}, [4]int{21, 0, 10, 0}, [4]int{-1, 0, 10, 0}, [4]int{1<<63 - 1, 0, 10, 0}, [4]int{-1 << 63, 0, 10, 0},
			[4]int{1, -1, 10, 0}, [4]int{1, 101, 10, 0}, [4]int{1, 1<<63 - 1, 10, 0}, [4]int{1, -1 << 63, 10, 0},
			[4]int{1, 0, -1, 0}, [4]int{1, 0, 201, 0}, [4]int{1, 0, 1<<63 - 1, 0}, [4]int{1, 0, -1 << 63, 0},
			[4]int{1, 0, 10, -1}, [4]int{1, 0, 10, 21}, [4]int{1, 0, 10, 1<<63 - 1}, [4]int{1, 0, 10, -1 << 63},
		) {
			l := slices.Repeat([]dates.Job{good}, api.MaxJobs)
			l[at] = bad
			all = append(all, l, l[:at+1])
		}
	}
	return all
}
