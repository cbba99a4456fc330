package split_test

import (
	"math/rand"
	"slices"
	"testing"

	"corrody/api"
	"corrody/split"
)

// example is the values of the chapter's examples.
func example() [][]int { return [][]int{{5, 3, 1}, {4, 4, 2}} }

// cases calls f with count values from a fixed sequence. Small worths are frequent, as they make ties and zeros.
func cases(count int, f func(v [][]int, r *rand.Rand)) {
	r := rand.New(rand.NewSource(1))
	for range count {
		f(randomValues(r, 1+r.Intn(api.MaxPeople), 1+r.Intn(api.MaxGoods)), r)
	}
}

func randomValues(r *rand.Rand, people, goods int) [][]int {
	most := []int{1, 2, 4, 10, 100}[r.Intn(5)]
	v := make([][]int, people)
	for i := range v {
		v[i] = make([]int, goods)
		for g := range v[i] {
			v[i][g] = r.Intn(most + 1)
		}
	}
	return v
}

func randomDivision(r *rand.Rand, v [][]int) []int {
	d := make([]int, len(v[0]))
	for g := range d {
		d[g] = r.Intn(len(v))
	}
	return d
}

// all returns all divisions in order.
func all(people, goods int) [][]int {
	if goods == 0 {
		return [][]int{{}}
	}
	var l [][]int
	for _, d := range all(people, goods-1) {
		for owner := range people {
			l = append(l, append(slices.Clone(d), owner))
		}
	}
	return l
}

// worth is what owner's goods are worth by row.
func worth(row, d []int, owner int) int {
	sum := 0
	for g := range row {
		if d[g] == owner {
			sum += row[g]
		}
	}
	return sum
}

func worths(v [][]int, d []int) []int {
	l := make([]int, len(v))
	for i := range v {
		l[i] = worth(v[i], d, i)
	}
	return l
}

func total(row []int) int {
	sum := 0
	for _, x := range row {
		sum += x
	}
	return sum
}

// badRows are no values of one person.
func badRows() [][]int {
	return [][]int{nil, {}, make([]int, api.MaxGoods+1), make([]int, 100000), {1, -1}, {101, 1}, {-1 << 63, 1}, {1, 1<<63 - 1}}
}

// badValues are no values.
func badValues() [][][]int {
	l := [][][]int{nil, {}, make([][]int, 2), {{1, 2}, {1}}, {{1}, {1, 2}}, {{1}, nil}, {{1}, {1}, {1}, {1}, {1}}, make([][]int, 100000)}
	for _, row := range badRows() {
		l = append(l, [][]int{row}, [][]int{row, row}, [][]int{{1, 2}, row})
	}
	return l
}

// badDivisions are no divisions of three goods to two people.
func badDivisions() [][]int {
	return [][]int{nil, {}, {0, 1}, {0, 1, 0, 1}, {0, 1, 2}, {-1, 0, 1}, {0, -1 << 63, 1}, {0, 1, 1<<63 - 1}, make([]int, 100000)}
}

// fair returns whether d is fair of the kind, and fails if that is an error.
func fair(t *testing.T, v [][]int, d []int, kind int) bool {
	t.Helper()
	ok, e := split.Fair(v, d, kind)
	if e != api.OK {
		t.Fatal(v, d, kind, e)
	}
	return ok
}

// dealt returns what a function that divides values returns, and fails if that is an error or no division.
func dealt(t *testing.T, f func([][]int) ([]int, api.Errno), v [][]int) []int {
	t.Helper()
	d, e := f(v)
	if e != api.OK || len(d) != len(v[0]) || slices.Min(d) < 0 || slices.Max(d) >= len(v) {
		t.Fatal(v, d, e)
	}
	return d
}

func nash(v [][]int) ([]int, api.Errno) {
	d, _, e := split.Nash(v)
	return d, e
}

func share(t *testing.T, l []int, n int) int {
	t.Helper()
	s, e := split.Share(l, n)
	if e != api.OK {
		t.Fatal(l, n, e)
	}
	return s
}
