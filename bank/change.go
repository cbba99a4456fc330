package bank

import (
	"slices"
	"strconv"

	"corrody/api"
	"corrody/split"
)

// change judges what follows the first word of a change. What it returns makes the change and returns the reply, so that nothing is made before the line is on the disk.
type change func(w words) (func() string, api.Errno)

// changeFor returns the form and the change that a first word stands for.
func (s *state) changeFor(word string) (form, change) {
	switch word {
	case "day":
		return form{"0", 1}, s.passDays
	case "pantry":
		return form{"a0", 2}, s.addPantry
	case "worth":
		return form{"aa0", 3}, s.setWorth
	case "give":
		return form{"a00", 3}, s.addLot
	case "deal":
		return form{"", 0}, s.dealLots
	case "hand":
		return form{"a0000", 1}, s.addHand
	case "vote":
		return form{"00000", 1}, s.addBallot
	}
	return noForm(), nil
}

// judge returns what makes the change that a line is.
func (s *state) judge(line string) (func() string, api.Errno) {
	judged, w, ok := parse(line, s.changeFor)
	if !ok {
		return nil, api.ErrForm
	}
	return judged(w)
}

// passDays is the change to a later day.
func (s *state) passDays(w words) (func() string, api.Errno) {
	day := w.numbers[0]
	if day < s.day {
		return nil, api.ErrArg
	}
	return func() string {
		s.day = day
		late := where(s.free(), func(l *lot) bool { return l.date < day })
		for _, l := range late {
			l.gone = true
		}
		return "day " + strconv.Itoa(len(late))
	}, api.OK
}

// addPantry is the change that opens a pantry.
func (s *state) addPantry(w words) (func() string, api.Errno) {
	name, stop := w.names[0], w.numbers[0]
	switch {
	case s.pantries[name] != nil:
		return nil, api.ErrState
	case len(s.pantries) == maxPantries:
		return nil, api.ErrFull
	case !within(stop, home+1, api.MaxNodes-1) || s.isTaken(stop):
		return nil, api.ErrArg
	}
	return func() string {
		s.pantries[name] = &pantry{stop: stop, worth: map[string]int{}}
		return "pantry"
	}, api.OK
}

// isTaken reports whether a stop is a pantry's.
func (s *state) isTaken(stop int) bool {
	for _, p := range s.pantries {
		if p.stop == stop {
			return true
		}
	}
	return false
}

// setWorth is the change of what a food is worth to a pantry.
func (s *state) setWorth(w words) (func() string, api.Errno) {
	p, food, worth := s.pantries[w.names[0]], w.names[1], w.numbers[0]
	switch {
	case p == nil:
		return nil, api.ErrNone
	case worth > maxWorth:
		return nil, api.ErrArg
	}
	return func() string {
		p.worth[food] = worth
		return "worth"
	}, api.OK
}

// addLot is the change by which a lot is given.
func (s *state) addLot(w words) (func() string, api.Errno) {
	food, units, date := w.names[0], w.numbers[0], w.numbers[1]
	switch {
	case !within(units, 1, maxUnits) || date < s.day:
		return nil, api.ErrArg
	case len(s.lots) == maxLots:
		return nil, api.ErrFull
	}
	return func() string {
		l := &lot{number: len(s.lots) + 1, food: food, units: units, date: date}
		s.lots = append(s.lots, l)
		return "give " + l.label()
	}, api.OK
}

// dealLots is the change that divides lots among the pantries.
func (s *state) dealLots(words) (func() string, api.Errno) {
	names, lots := s.names(), front(s.free(), api.MaxGoods)
	if len(names) == 0 || len(lots) == 0 {
		return nil, api.ErrNone
	}
	return func() string {
		var values [][]int
		for _, name := range names {
			values = append(values, s.pantries[name].values(lots))
		}
		division, _ := split.Cycles(values)
		for at, l := range lots {
			l.pantry = names[division[at]]
		}
		return reply("deal", lots, (*lot).labelOwned)
	}, api.OK
}

// addHand is the change by which a volunteer comes.
func (s *state) addHand(w words) (func() string, api.Errno) {
	name, turns := w.names[0], w.numbers
	switch {
	case slices.ContainsFunc(s.hands, func(h hand) bool { return h.name == name }):
		return nil, api.ErrState
	case len(s.hands) == api.MaxHands:
		return nil, api.ErrFull
	case !areDifferent(turns, api.MaxShifts):
		return nil, api.ErrArg
	}
	return func() string {
		s.hands = append(s.hands, hand{name: name, turns: turns})
		return "hand"
	}, api.OK
}

// addBallot is the change by which a ballot is cast.
func (s *state) addBallot(w words) (func() string, api.Errno) {
	ballot := w.numbers
	switch {
	case len(s.ballots) == api.MaxVoters:
		return nil, api.ErrFull
	case !areDifferent(ballot, len(ballot)) || len(s.ballots) > 0 && len(s.ballots[0]) != len(ballot):
		return nil, api.ErrArg
	}
	return func() string {
		s.ballots = append(s.ballots, ballot)
		return "vote"
	}, api.OK
}

// areDifferent reports whether all numbers of a list are less than n, and none is twice there.
func areDifferent(list []int, n int) bool {
	for at, x := range list {
		if x >= n || slices.Contains(list[:at], x) {
			return false
		}
	}
	return true
}
