package dates

import (
	"cmp"
	"slices"

	"corrody/api"
)

const (
	maxBefores = 16
	// never is above all delays: that of jobs that cannot all follow.
	never = api.MaxJobs*maxTime + 1
	// none is below all delays: that of no jobs.
	none = -maxDue
)

// row is jobs that are done one after another.
type row struct {
	jobs  []Job
	needs [api.MaxJobs]int // for each job the set of those that must be done before it
}

// Ends returns when jobs end in a row.
func Ends(l []Job, order []int) ([]int, api.Errno) {
	if !valid(l) || !isOrder(order, len(l)) {
		return nil, api.ErrArg
	}
	ends := make([]int, len(l))
	now := 0
	for _, job := range order {
		now += l[job].Time
		ends[job] = now
	}
	return ends, api.OK
}

// Most returns the most jobs on time.
func Most(l []Job) (int, api.Errno) {
	if !valid(l) {
		return 0, api.ErrArg
	}
	best, _ := heaviest(l, func(Job) int { return 1 })
	return best, api.OK
}

// Weigh returns the most weight on time.
func Weigh(l []Job) (int, int, api.Errno) {
	if !valid(l) {
		return 0, 0, api.ErrArg
	}
	best, sum := heaviest(l, func(job Job) int { return job.Weight })
	return best, sum, api.OK
}

// Least returns the order with the least greatest delay.
func Least(l []Job, before [][2]int) ([]int, int, api.Errno) {
	if !valid(l) || !validBefores(before, len(l)) {
		return nil, 0, api.ErrArg
	}
	r := row{jobs: l}
	for _, pair := range before {
		r.needs[pair[1]] |= 1 << pair[0]
	}
	delays := r.delays()
	least := delays[0]
	if least == never {
		return nil, 0, api.ErrLoop
	}
	return r.first(delays, least), least, api.OK
}

// validBefores reports whether before is befores of some jobs.
func validBefores(before [][2]int, jobs int) bool {
	if len(before) > maxBefores {
		return false
	}
	for _, pair := range before {
		if !within(pair[0], 0, jobs-1) || !within(pair[1], 0, jobs-1) {
			return false
		}
	}
	return true
}

// heaviest returns the least of the sets that can be on time with the greatest sum of weights, and that sum.
func heaviest(l []Job, weight func(Job) int) (int, int) {
	byDue := inOrderOfDue(l)
	best, most := 0, 0
	for set := range 1 << len(l) {
		sum := 0
		for k, job := range l {
			if has(set, k) {
				sum += weight(job)
			}
		}
		if sum > most && onTime(l, set, byDue) {
			best, most = set, sum
		}
	}
	return best, most
}

// inOrderOfDue returns the order of jobs by Due.
func inOrderOfDue(l []Job) []int {
	order := make([]int, len(l))
	for k := range order {
		order[k] = k
	}
	slices.SortStableFunc(order, func(a, b int) int { return cmp.Compare(l[a].Due, l[b].Due) })
	return order
}

// onTime reports whether the jobs of a set are on time if they are done first, in the order of Due: if they are not, they are in no row.
func onTime(l []Job, set int, byDue []int) bool {
	now := 0
	for _, job := range byDue {
		if !has(set, job) {
			continue
		}
		now += l[job].Time
		if now > l[job].Due {
			return false
		}
	}
	return true
}

// delays returns, for each set of jobs that are done, what the greatest delay of the others is at least, or never if they cannot all follow.
func (r row) delays() []int {
	all := 1<<len(r.jobs) - 1
	delays := make([]int, all+1)
	delays[all] = none
	for done := all - 1; done >= 0; done-- {
		delays[done] = never
		for job := range r.jobs {
			if r.canFollow(done, job) {
				delays[done] = min(delays[done], r.delay(done, job, delays))
			}
		}
	}
	return delays
}

// first returns the first order whose greatest delay is the least.
func (r row) first(delays []int, least int) []int {
	var order []int
	done := 0
	for range r.jobs {
		for job := range r.jobs {
			if r.canFollow(done, job) && r.delay(done, job, delays) <= least {
				order = append(order, job)
				done |= 1 << job
				break
			}
		}
	}
	return order
}

// canFollow reports whether a job can be the next after those of a set.
func (r row) canFollow(done, job int) bool {
	return !has(done, job) && r.needs[job]&^done == 0
}

// delay returns what the greatest delay of all jobs outside of a set is at least, if a given one of them is the next.
func (r row) delay(done, job int, delays []int) int {
	done |= 1 << job
	end := 0
	for k, other := range r.jobs {
		if has(done, k) {
			end += other.Time
		}
	}
	return max(end-r.jobs[job].Due, delays[done])
}
