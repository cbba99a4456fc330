package swap

import (
	"slices"

	"corrody/api"
)

// The rules by which everyone gets a thing.
const (
	trading = iota
	choosing
	asking
)

// nothing is what people have before they get a thing.
const nothing = -1

// Lie returns an order by which a person gains.
func Lie(w [][]int, i int, rule int) ([]int, api.Errno) {
	wish, ok := read(w)
	if !ok || !within(i, 0, wish.people-1) || !within(rule, trading, asking) {
		return nil, api.ErrArg
	}
	honest := wish.by(rule)[i]
	for order := range orders(wish.people) {
		if wish.likes(i, wish.saying(i, order).by(rule)[i], honest) {
			return slices.Clone(order), api.OK
		}
	}
	return nil, api.ErrNone
}

// saying returns the wishes if a person gives an order in the place of their own.
func (w wishes) saying(person int, order []int) wishes {
	w.lists = slices.Clone(w.lists)
	w.lists[person] = order
	return w
}

// by returns the outcome of a rule.
func (w wishes) by(rule int) []int {
	switch rule {
	case trading:
		o, _ := w.owning(upTo(w.people)).trade()
		return o
	case choosing:
		return w.choose(upTo(w.people))
	default:
		return w.ask()
	}
}

// ask returns the outcome if everyone who has nothing asks for the best thing that is left, and so on.
func (w wishes) ask() []int {
	o := slices.Repeat([]int{nothing}, w.people)
	left := w.everyone()
	for left != 0 {
		// All ask at the same time, so that what is taken meanwhile may still be asked for.
		offered := left
		for person := range o {
			if o[person] != nothing {
				continue
			}
			// The first one who comes by has the least index.
			if thing := w.best(person, offered); has(left, thing) {
				o[person] = thing
				left &^= 1 << thing
			}
		}
	}
	return o
}
