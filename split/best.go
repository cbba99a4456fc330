package split

import (
	"slices"

	"corrody/api"
)

// Nash returns the division with the most people who have something of worth, of these the first one with the greatest product of these worths, and that product.
func Nash(v [][]int) ([]int, int, api.Errno) {
	if !validValues(v) {
		return nil, 0, api.ErrArg
	}
	d, score := greatest(v, func(worths []int) []int {
		people, product := 0, 1
		for _, worth := range worths {
			if worth > 0 {
				people++
				product *= worth
			}
		}
		return []int{people, product}
	})
	return d, score[1], api.OK
}

// Least returns the first division in which the least worth of a person's own goods is greatest, then the second least one, and so on.
func Least(v [][]int) ([]int, api.Errno) {
	if !validValues(v) {
		return nil, api.ErrArg
	}
	d, _ := greatest(v, func(worths []int) []int {
		rising := slices.Clone(worths)
		slices.Sort(rising)
		return rising
	})
	return d, api.OK
}

// Better returns the first division that is better than d.
func Better(v [][]int, d []int) ([]int, api.Errno) {
	if !validDivision(v, d) {
		return nil, api.ErrArg
	}
	had := ownWorths(v, d)
	var found []int
	eachDivision(len(v), len(d), func(other []int) bool {
		if improves(ownWorths(v, other), had) {
			found = slices.Clone(other)
		}
		return found == nil
	})
	if found == nil {
		return nil, api.ErrNone
	}
	return found, api.OK
}

// greatest returns the first division whose score is greatest, and that score. The score is taken of what people's own goods are worth to them.
func greatest(v [][]int, score func(worths []int) []int) ([]int, []int) {
	var best, top []int
	eachDivision(len(v), len(v[0]), func(d []int) bool {
		if s := score(ownWorths(v, d)); top == nil || slices.Compare(s, top) > 0 {
			best, top = slices.Clone(d), s
		}
		return true
	})
	return best, top
}

// eachDivision calls visit with every division, in order, until it returns false. The slice is the same one at each call.
func eachDivision(people, goods int, visit func(d []int) bool) {
	d := make([]int, goods)
	for visit(d) && advance(d, people) {
	}
}

// advance makes d the division that follows it, and reports whether there was one.
func advance(d []int, people int) bool {
	for g := len(d) - 1; g >= 0; g-- {
		if d[g]+1 < people {
			d[g]++
			return true
		}
		d[g] = 0
	}
	return false
}

// ownWorths returns what each person's own goods are worth to them.
func ownWorths(v [][]int, d []int) []int {
	worths := make([]int, len(v))
	for g, owner := range d {
		worths[owner] += v[owner][g]
	}
	return worths
}

// improves reports whether nobody has less and somebody more than they had.
func improves(has, had []int) bool {
	more := false
	for i := range len(had) {
		if has[i] < had[i] {
			return false
		}
		more = more || has[i] > had[i]
	}
	return more
}
