package vote_test

import (
	"math/bits"
	"math/rand"
	"testing"

	"corrody/api"
	"corrody/vote"
)

// P3.5: Committee.
func TestCommitteeExamples(t *testing.T) {
	for _, x := range []struct {
		c, k int
		l    []int
		want int
	}{
		{3, 2, []int{1, 1, 2, 4}, 3},
		{1, 1, []int{0}, 1},
		{1, 1, []int{1}, 1},
		// Of equal ones the least number.
		{2, 1, []int{2, 1}, 1},
		{3, 2, []int{0}, 3},
		{3, 2, []int{4, 1}, 5},
		{3, 1, []int{4, 4, 1}, 4},
		{3, 3, []int{4}, 7},
		// The second candidate of the same voters counts a half: two more voters are more than it, one more is as much for two of the first.
		{4, 2, []int{3, 3, 4}, 3},
		{4, 2, []int{3, 12}, 5},
		{4, 2, []int{3, 3, 3, 12}, 3},
		{4, 2, []int{3, 3, 3, 12, 12}, 5},
		// The third counts a third: 3 of 1/3 are 1, and 4 are more.
		{4, 3, []int{7, 7, 7, 8}, 7},
		{4, 3, []int{14, 14, 14, 1}, 7},
		{4, 3, []int{14, 14, 14, 14, 1}, 14},
		// The eighth counts 1/8 and the seventh 1/7.
		{8, 7, []int{127, 127, 127, 127, 127, 127, 127, 128}, 127},
		{8, 7, []int{254, 254, 254, 254, 254, 254, 254, 1}, 127},
		{8, 7, []int{254, 254, 254, 254, 254, 254, 254, 254, 1}, 254},
		{8, 8, []int{255, 255, 255, 255, 255, 255, 255, 255, 255}, 255},
	} {
		if set, e := vote.Committee(x.c, x.k, x.l); set != x.want || e != api.OK {
			t.Error(x, set, e)
		}
	}
}

// P3.5: Committee, by its definition.
func TestCommitteeOfMany(t *testing.T) {
	r := rand.New(rand.NewSource(1))
	for range 300 {
		c, k, l := randomApprovals(r)
		got, e := vote.Committee(c, k, l)
		if e != api.OK || got < 0 || got >= 1<<c || bits.OnesCount(uint(got)) != k {
			t.Fatal(c, k, l, got, e)
		}
		most := scoreOf(l, got)
		for set := range 1 << c {
			if bits.OnesCount(uint(set)) != k {
				continue
			}
			if more := scoreOf(l, set).Cmp(most); more > 0 || more == 0 && set < got {
				t.Fatal(c, k, l, got, set)
			}
		}
	}
}

// P3.5: Group.
func TestGroupExamples(t *testing.T) {
	for _, x := range []struct {
		c, k      int
		l         []int
		committee int
		want      int // 0: there is none
	}{
		{3, 2, []int{1, 1, 2, 4}, 6, 3},
		{3, 2, []int{1, 1, 2, 4}, 3, 0},
		{1, 1, []int{1}, 1, 0},
		{2, 1, []int{1}, 2, 1},
		// Who approves of nobody is in no group.
		{2, 1, []int{0}, 2, 0},
		{2, 1, []int{0, 1}, 2, 0},
		// 2 of 3 for k = 2: one is less than 3/2.
		{4, 2, []int{1, 2, 2}, 12, 6},
		{5, 2, []int{1, 2, 4}, 24, 0},
		{5, 3, []int{1, 2}, 28, 1},
		// Of equally many members the least number.
		{4, 2, []int{1, 1, 2, 2}, 12, 3},
		{4, 2, []int{2, 2, 1, 1}, 12, 3},
		{4, 2, []int{2, 1, 2, 1}, 12, 5},
		// More members before a lesser number.
		{4, 1, []int{1, 2, 2, 2}, 8, 0},
		{4, 2, []int{1, 1, 2, 2, 2}, 12, 28},
		// The members must have one candidate in common, not each two of them.
		{4, 1, []int{3, 6, 5}, 8, 0},
		{5, 2, []int{3, 6, 5}, 24, 3},
		// Who has a candidate in the committee is in no group.
		{4, 2, []int{1, 1, 5, 1 + 8}, 12, 3},
		{4, 2, []int{1, 1, 5, 1 + 8, 2}, 12, 0},
		{8, 7, []int{1, 2, 4, 8, 16, 32, 64, 128, 1}, 254, 257},
		{8, 8, []int{1}, 255, 0},
	} {
		e := api.OK
		if x.want == 0 {
			e = api.ErrNone
		}
		if bits.OnesCount(uint(x.committee)) != x.k {
			e = api.ErrArg
		}
		if group, got := vote.Group(x.c, x.k, x.l, x.committee); group != x.want || got != e {
			t.Error(x, group, got)
		}
	}
}

// P3.5: Group, by its definition.
func TestGroupOfMany(t *testing.T) {
	r := rand.New(rand.NewSource(1))
	some, none := 0, 0
	for range 1000 {
		c, k, l := randomApprovals(r)
		committee := 0
		for _, a := range r.Perm(c)[:k] {
			committee |= 1 << a
		}
		want, most := 0, 0
		for group := range 1 << len(l) {
			if size := bits.OnesCount(uint(group)); size > most && blocks(k, l, committee, group) {
				want, most = group, size
			}
		}
		e := api.OK
		if want == 0 {
			e = api.ErrNone
			none++
		} else {
			some++
		}
		if group, got := vote.Group(c, k, l, committee); group != want || got != e {
			t.Fatal(c, k, l, committee, group, got)
		}
	}
	if some < 100 || none < 100 {
		t.Error("too few of one kind", some, none)
	}
}

// P3.5: invalid approvals and committees.
func TestCommitteeErrors(t *testing.T) {
	least, most := -1<<63, 1<<63-1
	for _, x := range []struct {
		c, k int
		l    []int
	}{
		{0, 0, []int{0}}, {0, 1, []int{0}}, {9, 1, []int{1}}, {-1, 1, []int{0}}, {least, 1, []int{0}}, {most, 1, []int{0}}, {64, 1, []int{0}},
		{3, 0, []int{1}}, {3, 4, []int{1}}, {3, -1, []int{1}}, {3, least, []int{1}}, {3, most, []int{1}},
		{3, 1, nil}, {3, 1, []int{}}, {3, 1, make([]int, 10)}, {3, 1, make([]int, 100000)},
		{3, 1, []int{8}}, {3, 1, []int{1, -1}}, {3, 1, []int{1, least}}, {3, 1, []int{most, 1}}, {8, 1, []int{256}},
	} {
		if set, e := vote.Committee(x.c, x.k, x.l); set != 0 || e != api.ErrArg {
			t.Error(x.c, x.k, len(x.l), set, e)
		}
		for _, committee := range []int{0, 1, 2, 1<<max(0, min(x.k, 60)) - 1} {
			if group, e := vote.Group(x.c, x.k, x.l, committee); group != 0 || e != api.ErrArg {
				t.Error(x.c, x.k, len(x.l), committee, group, e)
			}
		}
	}
	// Nobody could block these, so that ErrArg comes before ErrNone.
	for _, committee := range []int{0, 1, 2, 4, 7, 8, 9, 10, 12, -1, -2, least, least + 1, most, 1<<62 + 1} {
		if group, e := vote.Group(3, 2, []int{0, 0}, committee); group != 0 || e != api.ErrArg {
			t.Error(committee, group, e)
		}
	}
	for _, committee := range []int{3, 5, 6} {
		if group, e := vote.Group(3, 2, []int{0, 0}, committee); group != 0 || e != api.ErrNone {
			t.Error(committee, group, e)
		}
	}
}
