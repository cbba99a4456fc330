package turns

import (
	"slices"

	"corrody/api"
)

// Lie returns the first list by which shift s gains in First if it gives it in the place of its own.
func Lie(p Plan, s int) ([]int, api.Errno) {
	if !p.valid() || s < 0 || s >= len(p.Shifts) {
		return nil, api.ErrArg
	}
	list, found := p.lieFrom(s, handsOf(p.first(), s), nil)
	if !found {
		return nil, api.ErrNone
	}
	return list, api.OK
}

// lieFrom returns the first list that begins with some hands and by which shift s gains against those that it had.
func (p Plan) lieFrom(s int, had, list []int) ([]int, bool) {
	if p.gains(s, had, handsOf(p.withList(s, list).first(), s)) {
		return list, true
	}
	for h := range len(p.Hands) {
		if !slices.Contains(p.Shifts[s], h) || slices.Contains(list, h) {
			continue
		}
		if longer, found := p.lieFrom(s, had, append(slices.Clone(list), h)); found {
			return longer, true
		}
	}
	return nil, false
}

// withList returns the plan in which shift s gives another list.
func (p Plan) withList(s int, list []int) Plan {
	p.Shifts = slices.Clone(p.Shifts)
	p.Shifts[s] = list
	return p
}

// gains reports whether shift s has others than it had, and by its own list none that is worse, a free place being the worst.
func (p Plan) gains(s int, had, has []int) bool {
	own := p.Shifts[s]
	had, has = byRank(own, had...), byRank(own, has...)
	if slices.Equal(had, has) || len(has) < len(had) {
		return false
	}
	for at := range len(had) {
		if rank(own, has[at]) > rank(own, had[at]) {
			return false
		}
	}
	return true
}
