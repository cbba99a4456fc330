package route

import (
	"slices"

	"corrody/api"
)

const (
	maxMoats = 200
	maxWidth = 1000
)

// Moats returns moats that fit, and whose widths sum to at least the cost of a tree.
func Moats(m Map, stops int) ([]Moat, api.Errno) {
	if !m.canAsk(stops) {
		return nil, api.ErrArg
	}
	if !m.joinedIf(func(Road) bool { return true }).connect(stops) {
		return nil, api.ErrNone
	}
	// Moats grow at one speed around all parts with stops that are asked for; a road that they fill joins parts. In the end some tree of filled roads ends at stops asked for only: at every moment it leaves parts that grow less than twice as often as there are such parts, so that in half units it costs at most twice what the moats sum to.
	var moats []Moat
	p := apart()
	for !p.connect(stops) {
		width := m.room(p, stops, moats)
		for _, set := range p.with(stops) {
			moats = widened(moats, set, width)
		}
		p = m.joinedIf(func(road Road) bool { return road.left(moats) == 0 })
	}
	return moats, api.OK
}

// CheckMoats reports whether moats fit, and the sum of their widths.
func CheckMoats(m Map, stops int, l []Moat) (int, bool, api.Errno) {
	if !m.canAsk(stops) {
		return 0, false, api.ErrArg
	}
	if !m.areMoats(stops, l) || slices.ContainsFunc(m.Roads, func(road Road) bool { return road.left(l) < 0 }) {
		return 0, false, api.OK
	}
	sum := 0
	for _, moat := range l {
		sum += moat.Width
	}
	return sum, true, api.OK
}

// areMoats reports whether l are moats that part stops, whether they fit or not.
func (m Map) areMoats(stops int, l []Moat) bool {
	if len(l) > maxMoats {
		return false
	}
	for _, moat := range l {
		if moat.Set < 0 || moat.Set >= 1<<m.N || moat.Width < 1 || moat.Width > maxWidth {
			return false
		}
		if inside := moat.Set & stops; inside == 0 || inside == stops {
			return false
		}
	}
	return true
}

// joinedIf returns the parts that the chosen roads make.
func (m Map) joinedIf(chosen func(Road) bool) parts {
	p := apart()
	for _, road := range m.Roads {
		if chosen(road) {
			p = p.joined(road)
		}
	}
	return p
}

// room returns how much wider moats around all parts with stops that are asked for can become.
func (m Map) room(p parts, stops int, moats []Moat) int {
	least := 2 * maxCost
	for _, road := range m.Roads {
		if p[road.A] == p[road.B] {
			continue
		}
		growing := 0
		for _, end := range []int{road.A, road.B} {
			if p[end]&stops != 0 {
				growing++
			}
		}
		if growing > 0 {
			// Other stops are reached after whole units only, so that between two parts that grow an even number of half units is left.
			least = min(least, road.left(moats)/growing)
		}
	}
	return least
}

// left returns how many half units of a road moats leave free.
func (r Road) left(moats []Moat) int {
	free := 2 * r.Cost
	for _, moat := range moats {
		if has(moat.Set, r.A) != has(moat.Set, r.B) {
			free -= moat.Width
		}
	}
	return free
}

// with returns the parts that have stops of a set, each once.
func (p parts) with(stops int) []int {
	var sets []int
	for stop, set := range p {
		if has(stops, stop) && !slices.Contains(sets, set) {
			sets = append(sets, set)
		}
	}
	return sets
}

// widened returns moats with more width around a set.
func widened(moats []Moat, set, by int) []Moat {
	at := slices.IndexFunc(moats, func(moat Moat) bool { return moat.Set == set })
	if at < 0 {
		return append(moats, Moat{Set: set, Width: by})
	}
	moats[at].Width += by
	return moats
}
