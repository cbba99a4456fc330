package dates

import (
	"slices"

	"corrody/api"
)

const maxEnd = 1000

// priority tells which job is worked on.
type priority interface {
	// rank returns the rank of a job of which so much Time is left. The job with the least rank is worked on.
	rank(job Job, left int) int
}

// dueFirst works on what is due first.
type dueFirst struct{}

// shortFirst works on what can be finished first.
type shortFirst struct{}

func (dueFirst) rank(job Job, left int) int { return job.Due }

func (shortFirst) rank(job Job, left int) int { return left }

// Plan returns the plan by Due.
func Plan(l []Job) ([]Piece, api.Errno) {
	if !valid(l) {
		return nil, api.ErrArg
	}
	return planBy(dueFirst{}, l), api.OK
}

// Overload returns an overloaded stretch.
func Overload(l []Job) ([2]int, api.Errno) {
	if !valid(l) {
		return [2]int{}, api.ErrArg
	}
	// Plan has a late job only if there is an overloaded stretch, so that it need not be asked. Jobs are released and due within these limits, so that no other stretch is the first.
	for a := range maxRelease + 1 {
		for b := a; b <= maxDue; b++ {
			if load(l, a, b) > b-a {
				return [2]int{a, b}, api.OK
			}
		}
	}
	return [2]int{}, api.ErrNone
}

// Delay returns the least greatest delay.
func Delay(l []Job) (int, api.Errno) {
	if !valid(l) {
		return 0, api.ErrArg
	}
	// No whole plan has a lesser greatest delay than the plan by Due.
	delays := endsOf(planBy(dueFirst{}, l), len(l))
	for k, job := range l {
		delays[k] -= job.Due
	}
	return slices.Max(delays), api.OK
}

// Short returns the plan by the Time that is left, and the sum of its ends.
func Short(l []Job) ([]Piece, int, api.Errno) {
	if !valid(l) {
		return nil, 0, api.ErrArg
	}
	plan := planBy(shortFirst{}, l)
	sum := 0
	for _, end := range endsOf(plan, len(l)) {
		sum += end
	}
	return plan, sum, api.OK
}

// Check reports whether p is a whole plan, and its ends.
func Check(l []Job, p []Piece) ([]int, bool, api.Errno) {
	if !valid(l) {
		return nil, false, api.ErrArg
	}
	if !isPlan(p, len(l)) || !isWhole(p, l) {
		return nil, false, api.OK
	}
	return endsOf(p, len(l)), true, api.OK
}

// planBy returns the plan in which a priority tells, at every time, which job is worked on.
func planBy(p priority, l []Job) []Piece {
	left := timesOf(l)
	var plan []Piece
	for now := 0; slices.Max(left) > 0; now++ {
		job := chosen(p, l, left, now)
		if job < 0 {
			continue
		}
		left[job]--
		// No time passes idle while a job is begun, so that there is no gap before it goes on.
		last := len(plan) - 1
		if last >= 0 && plan[last].Job == job {
			plan[last].To++
		} else {
			plan = append(plan, Piece{Job: job, From: now, To: now + 1})
		}
	}
	return plan
}

// chosen returns the first job with the least rank of those that can be worked on at a time, or -1 if there are none.
func chosen(p priority, l []Job, left []int, now int) int {
	best, least := -1, 0
	for k, job := range l {
		if left[k] == 0 || job.Release > now {
			continue
		}
		rank := p.rank(job, left[k])
		if best < 0 || rank < least {
			best, least = k, rank
		}
	}
	return best
}

// load returns the sum of the Times of the jobs that can be worked on only within a stretch.
func load(l []Job, a, b int) int {
	sum := 0
	for _, job := range l {
		if job.Release >= a && job.Due <= b {
			sum += job.Time
		}
	}
	return sum
}

// timesOf returns the Time of each job.
func timesOf(l []Job) []int {
	times := make([]int, len(l))
	for k, job := range l {
		times[k] = job.Time
	}
	return times
}

// endsOf returns the ends of a plan.
func endsOf(p []Piece, jobs int) []int {
	ends := make([]int, jobs)
	for _, piece := range p {
		ends[piece.Job] = piece.To
	}
	return ends
}

// isPlan reports whether p is a plan of some jobs that begins at 0 or later: no job is released before.
func isPlan(p []Piece, jobs int) bool {
	before := Piece{Job: -1}
	for _, piece := range p {
		if !within(piece.Job, 0, jobs-1) || piece.From < before.To || piece.To <= piece.From || piece.To > maxEnd {
			return false
		}
		if piece.Job == before.Job && piece.From == before.To {
			return false
		}
		before = piece
	}
	return true
}

// isWhole reports whether every job has its Time in a plan, none of it before its Release.
func isWhole(p []Piece, l []Job) bool {
	times := make([]int, len(l))
	for _, piece := range p {
		if piece.From < l[piece.Job].Release {
			return false
		}
		times[piece.Job] += piece.To - piece.From
	}
	return slices.Equal(times, timesOf(l))
}
