package bank

import (
	"slices"
	"strconv"
	"strings"

	"corrody/api"
	"corrody/dates"
	"corrody/games"
	"corrody/route"
	"corrody/turns"
	"corrody/vote"
)

// question replies to what follows the first word of a question.
type question func(w words) (string, api.Errno)

// questionFor returns the form and the question that a first word stands for.
func (s *state) questionFor(word string) (form, question) {
	switch word {
	case "lots":
		return form{"", 0}, s.lotsLeft
	case "owns":
		return form{"a", 1}, s.lotsOwned
	case "recall":
		return form{"a0", 2}, s.lotsRecalled
	case "envy":
		return form{"", 0}, s.envy
	case "turns":
		return form{"", 0}, s.turnsTaken
	case "route":
		return form{"", 0}, s.routeCost
	case "pay":
		return form{"", 0}, s.payments
	case "buy":
		return form{"", 0}, s.winner
	case "first":
		return form{"", 0}, s.lotsFirst
	}
	return noForm(), nil
}

// ask replies to the question that a line is.
func (s *state) ask(line string) (string, api.Errno) {
	asked, w, ok := parse(line, s.questionFor)
	if !ok {
		return "", api.ErrForm
	}
	return asked(w)
}

// lotsLeft replies which lots are in no pantry.
func (s *state) lotsLeft(words) (string, api.Errno) {
	return reply("lots", s.free(), (*lot).labelFull), api.OK
}

// lotsOwned replies which lots a pantry has.
func (s *state) lotsOwned(w words) (string, api.Errno) {
	name := w.names[0]
	if s.pantries[name] == nil {
		return "", api.ErrNone
	}
	return reply("owns", s.owned(name), (*lot).label), api.OK
}

// lotsRecalled replies which pantries have lots of a food with a date.
func (s *state) lotsRecalled(w words) (string, api.Errno) {
	food, date := w.names[0], w.numbers[0]
	lots := where(s.lots, func(l *lot) bool { return l.pantry != "" && l.food == food && l.date == date })
	return reply("recall", lots, (*lot).labelOwned), api.OK
}

// envy replies which pantries would rather have what others have.
func (s *state) envy(words) (string, api.Errno) {
	var pairs []string
	names := s.names()
	for _, name := range names {
		for _, other := range names {
			if s.worth(name, other) > s.worth(name, name) {
				pairs = append(pairs, name+":"+other)
			}
		}
	}
	return reply("envy", pairs, func(pair string) string { return pair }), api.OK
}

// worth returns what the lots of another pantry, or its own, are worth to a pantry.
func (s *state) worth(name, other string) int {
	sum := 0
	for _, value := range s.pantries[name].values(s.owned(other)) {
		sum += value
	}
	return sum
}

// turnsTaken replies which turn each volunteer has.
func (s *state) turnsTaken(words) (string, api.Errno) {
	if len(s.hands) == 0 {
		return "", api.ErrNone
	}
	came := upTo(len(s.hands))
	plan := turns.Plan{Shifts: slices.Repeat([][]int{came}, api.MaxShifts), Places: slices.Repeat([]int{places}, api.MaxShifts)}
	for _, h := range s.hands {
		plan.Hands = append(plan.Hands, h.turns)
	}
	taken, _ := turns.First(plan)
	named := upTo(len(s.hands))
	slices.SortFunc(named, func(a, b int) int { return strings.Compare(s.hands[a].name, s.hands[b].name) })
	return reply("turns", named, func(at int) string {
		if taken[at] < 0 {
			return s.hands[at].name + ":-"
		}
		return s.hands[at].name + ":" + strconv.Itoa(taken[at])
	}), api.OK
}

// routeCost replies what it costs to reach all pantries.
func (s *state) routeCost(words) (string, api.Errno) {
	cost, e := s.cost(s.names())
	if e != api.OK {
		return "", e
	}
	return "route " + strconv.Itoa(cost), api.OK
}

// cost returns what it costs to reach some pantries.
func (s *state) cost(names []string) (int, api.Errno) {
	stops := 1 << home
	for _, name := range names {
		stops |= 1 << s.pantries[name].stop
	}
	tree, e := route.Tree(s.roads, stops)
	if e != api.OK {
		return 0, e
	}
	cost, _, _ := route.CheckTree(s.roads, stops, tree)
	return cost, api.OK
}

// payments replies what each pantry pays of what the route costs.
func (s *state) payments(words) (string, api.Errno) {
	names := s.names()
	if len(names) == 0 {
		return "", api.ErrNone
	}
	var costs []int
	for set := range 1 << len(names) {
		cost, e := s.cost(members(names, set))
		if e != api.OK {
			return "", e
		}
		costs = append(costs, cost)
	}
	paid, _ := games.Shapley(costs)
	return reply("pay", upTo(len(names)), func(at int) string { return names[at] + ":" + showFrac(paid[at]) }), api.OK
}

// showFrac returns a fraction as a number, if it is one, or as two.
func showFrac(f api.Frac) string {
	if f.Den == 1 {
		return strconv.Itoa(f.Num)
	}
	return strconv.Itoa(f.Num) + "/" + strconv.Itoa(f.Den)
}

// winner replies which candidate has won.
func (s *state) winner(words) (string, api.Errno) {
	if len(s.ballots) == 0 {
		return "", api.ErrNone
	}
	const paths = 2
	winner, _ := vote.Win(s.ballots, paths)
	return "buy " + strconv.Itoa(winner), api.OK
}

// lotsFirst replies which lots are brought out first.
func (s *state) lotsFirst(words) (string, api.Errno) {
	lots := front(s.free(), api.MaxJobs)
	if len(lots) == 0 {
		return "", api.ErrNone
	}
	var jobs []dates.Job
	for _, l := range lots {
		// A lot is still good on the day of its date.
		jobs = append(jobs, dates.Job{Time: l.units, Due: min(l.date-s.day+1, maxDue)})
	}
	set, _ := dates.Most(jobs)
	return reply("first", members(lots, set), (*lot).label), api.OK
}

// members returns those of a list whose indices are in a set.
func members[T any](list []T, set int) []T {
	var those []T
	for at, x := range list {
		if set>>at&1 == 1 {
			those = append(those, x)
		}
	}
	return those
}
