package turns

import "corrody/api"

// First returns the stable matching that is at least as good for the hands as every other one.
func First(p Plan) ([]int, api.Errno) {
	if !p.valid() {
		return nil, api.ErrArg
	}
	return p.first(), api.OK
}

// Last returns the stable matching as which every other one is at least as good for the hands.
func Last(p Plan) ([]int, api.Errno) {
	if !p.valid() {
		return nil, api.ErrArg
	}
	all := p.allStable()
	return p.middle(len(all), all...), api.OK
}

// Join gives each hand what they like more of what they have in a and in b.
func Join(p Plan, a, b []int) ([]int, api.Errno) {
	return p.ofTwo(1, a, b)
}

// Meet gives each hand what they like less of what they have in a and in b.
func Meet(p Plan, a, b []int) ([]int, api.Errno) {
	return p.ofTwo(2, a, b)
}

// Middle gives each hand the k-th best of what they have in all stable matchings.
func Middle(p Plan, k int) ([]int, api.Errno) {
	if !p.valid() {
		return nil, api.ErrArg
	}
	all := p.allStable()
	if k < 1 || k > len(all) {
		return nil, api.ErrArg
	}
	return p.middle(k, all...), api.OK
}

// Covers returns, by their indices in Stable, all pairs of neighbours in the lattice, the one that is better for the hands first; rising.
func Covers(p Plan) ([][2]int, api.Errno) {
	if !p.valid() {
		return nil, api.ErrArg
	}
	all := p.allStable()
	var pairs [][2]int
	for a := range len(all) {
	below:
		for b := range len(all) {
			if b == a || !p.asGood(all[a], all[b]) {
				continue
			}
			for c := range len(all) {
				if c != a && c != b && p.asGood(all[a], all[c]) && p.asGood(all[c], all[b]) {
					continue below
				}
			}
			pairs = append(pairs, [2]int{a, b})
		}
	}
	return pairs, api.OK
}

// ofTwo gives each hand the k-th best of what they have in two matchings, if both are stable.
func (p Plan) ofTwo(k int, a, b []int) ([]int, api.Errno) {
	if !p.matches(a) || !p.matches(b) {
		return nil, api.ErrArg
	}
	if !p.stable(a) || !p.stable(b) {
		return nil, api.ErrState
	}
	return p.middle(k, a, b), api.OK
}

// middle gives each hand the k-th best of what they have in some matchings.
func (p Plan) middle(k int, matchings ...[]int) []int {
	m := make([]int, len(p.Hands))
	for h, list := range p.Hands {
		var had []int
		for _, other := range matchings {
			had = append(had, other[h])
		}
		m[h] = choice(list, k, had...)
	}
	return m
}

// asGood reports whether every hand likes what they have in a at least as much as what they have in b.
func (p Plan) asGood(a, b []int) bool {
	for h, list := range p.Hands {
		if rank(list, a[h]) > rank(list, b[h]) {
			return false
		}
	}
	return true
}

// first returns the matching that comes if hands without a shift ask for the next one of their list, and shifts send away whom they like least of more hands than they have places. It is stable, and no stable matching has more for any hand: a shift that sends a hand away has no place for that hand in any stable matching.
func (p Plan) first() []int {
	m := unmatched(len(p.Hands))
	asked := make([]int, len(m)) // how many shifts each hand has asked
	for h := p.waiting(m, asked); h != none; h = p.waiting(m, asked) {
		s := p.Hands[h][asked[h]]
		asked[h]++
		p.admit(m, h, s)
	}
	return m
}

// waiting returns a hand without a shift that has one left to ask, or none.
func (p Plan) waiting(m, asked []int) int {
	for h, s := range m {
		if s == none && asked[h] < len(p.Hands[h]) {
			return h
		}
	}
	return none
}

// admit gives hand h shift s, if both want it, and sends somebody away if there are too many then.
func (p Plan) admit(m []int, h, s int) {
	if !p.possible(h, s) {
		return
	}
	m[h] = s
	held := handsOf(m, s)
	if len(held) > p.Places[s] {
		m[choice(p.Shifts[s], len(held), held...)] = none
	}
}
