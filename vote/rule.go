package vote

import (
	"slices"

	"corrody/api"
)

// Win returns the winner by a rule.
func Win(l [][]int, rule int) (int, api.Errno) {
	p, ok := count(l)
	if !ok || rule < 0 || rule >= len(rules()) {
		return 0, api.ErrArg
	}
	return rules()[rule](p), api.OK
}

// Lie returns the first voter who gains by another ballot, and the first such ballot.
func Lie(l [][]int, rule int) (voter int, ballot []int, e api.Errno) {
	p, ok := count(l)
	if !ok || rule < 0 || rule >= len(rules()) {
		return 0, nil, api.ErrArg
	}
	winner := rules()[rule]
	honest := winner(p)
	for voter, own := range l {
		lied := slices.Clone(l)
		for other := range orders(upTo(p.names), p.names) {
			lied[voter] = other
			q, _ := count(lied)
			if before(own, winner(q), honest) {
				return voter, other, api.OK
			}
		}
	}
	return 0, nil, api.ErrNone
}

// rules returns how each rule finds the winner.
func rules() [4]func(poll) int {
	return [4]func(poll) int{poll.byFirstPlaces, poll.byBorda, poll.byPaths, poll.byOrder}
}

// byFirstPlaces returns who is first on the most ballots.
func (p poll) byFirstPlaces() int {
	points := make([]int, p.names)
	for _, ballot := range p.ballots {
		points[ballot[0]]++
	}
	return firstOfMost(points)
}

// byBorda returns who has the most candidates behind them, over all ballots.
func (p poll) byBorda() int {
	points := make([]int, p.names)
	for _, ballot := range p.ballots {
		for at, a := range ballot {
			points[a] += p.names - 1 - at
		}
	}
	return firstOfMost(points)
}

// byPaths returns the first candidate who is at least as strong as all others.
func (p poll) byPaths() int {
	wide := p.widths()
	a := 0
	// There is such a candidate, as being stronger goes on from one to the next and never in a circle.
	for !p.strongest(wide, a) {
		a++
	}
	return a
}

// strongest reports whether a is at least as strong as all others.
func (p poll) strongest(wide table, a int) bool {
	for b := range p.names {
		if wide[a][b] < wide[b][a] {
			return false
		}
	}
	return true
}

// byOrder returns the first candidate of the order with the least disagreement.
func (p poll) byOrder() int {
	return p.kemeny()[0]
}

// firstOfMost returns the least number with the most points.
func firstOfMost(points []int) int {
	return slices.Index(points, slices.Max(points))
}
