package bank

import (
	"slices"
	"strconv"
	"strings"

	"corrody/api"
	"corrody/route"
)

const (
	home        = 0 // the bank's own stop
	maxPantries = api.MaxPeople
	maxLots     = 20
	maxUnits    = 5
	maxWorth    = 20
	maxDue      = 200
	places      = 2 // of each turn
)

// state is what the changes that were done have made of an empty bank.
type state struct {
	roads    route.Map
	day      int
	pantries map[string]*pantry // by their names
	lots     []*lot             // in the order in which they came
	hands    []hand             // likewise
	ballots  [][]int
}

// pantry is where food is brought to.
type pantry struct {
	stop  int
	worth map[string]int // what a unit of each food is worth to it
}

// lot is units of a food.
type lot struct {
	number      int
	food        string
	units, date int
	pantry      string // the name of the pantry that has it, or empty
	gone        bool
}

// hand is a volunteer.
type hand struct {
	name  string
	turns []int // the turns that they would take, the best first
}

// empty returns the state of a bank in which nothing was done.
func empty(roads route.Map) *state {
	return &state{roads: roads, pantries: map[string]*pantry{}}
}

// names returns the names of the pantries, in order.
func (s *state) names() []string {
	var names []string
	for name := range s.pantries {
		names = append(names, name)
	}
	slices.Sort(names)
	return names
}

// free returns the lots that are in no pantry and not gone.
func (s *state) free() []*lot {
	return where(s.lots, func(l *lot) bool { return l.pantry == "" && !l.gone })
}

// owned returns the lots of a pantry.
func (s *state) owned(name string) []*lot {
	return where(s.lots, func(l *lot) bool { return l.pantry == name })
}

// values returns what each of some lots is worth to a pantry.
func (p *pantry) values(lots []*lot) []int {
	var values []int
	for _, l := range lots {
		values = append(values, l.units*p.worth[l.food])
	}
	return values
}

// label returns the number of a lot.
func (l *lot) label() string {
	return strconv.Itoa(l.number)
}

// labelOwned returns the number of a lot and the pantry that has it.
func (l *lot) labelOwned() string {
	return l.label() + ":" + l.pantry
}

// labelFull returns the number of a lot and what it is.
func (l *lot) labelFull() string {
	return l.label() + ":" + l.food + ":" + strconv.Itoa(l.units) + ":" + strconv.Itoa(l.date)
}

// reply returns a word, and for each of a list a blank and its label.
func reply[T any](word string, list []T, label func(T) string) string {
	var text strings.Builder
	text.WriteString(word)
	for _, x := range list {
		text.WriteString(" ")
		text.WriteString(label(x))
	}
	return text.String()
}

// where returns those of a list that are wanted.
func where[T any](list []T, wanted func(T) bool) []T {
	var those []T
	for _, x := range list {
		if wanted(x) {
			those = append(those, x)
		}
	}
	return those
}

// front returns the first n of a list, or all of it if it has no more. What is appended to them is not written over the others.
func front[T any](list []T, n int) []T {
	n = min(n, len(list))
	return list[:n:n]
}

// upTo returns the numbers from 0 to n - 1.
func upTo(n int) []int {
	l := make([]int, n)
	for x := range n {
		l[x] = x
	}
	return l
}

// within reports whether x is from least to most.
func within(x, least, most int) bool {
	return x >= least && x <= most
}
