package bank_test

import (
	"fmt"
	"math/rand"
	"slices"
	"strings"
	"testing"

	"corrody/api"
	"corrody/bank"
	"corrody/route"
)

// badMaps are no maps with 8 stops.
func badMaps() []route.Map {
	all := []route.Map{{}, {N: 7}, {N: 9}, {N: -8}, {N: 1 << 40}, {N: 8, Roads: slices.Repeat([]route.Road{{A: 0, B: 1, Cost: 1}}, 17)}, {N: 7, Roads: row().Roads[:6]}}
	for _, road := range []route.Road{{A: 0, B: 8, Cost: 1}, {A: -1, B: 1, Cost: 1}, {A: 8, B: 1, Cost: 1}, {A: 3, B: 3, Cost: 1}, {A: 0, B: 1, Cost: 0}, {A: 0, B: 1, Cost: 51}, {A: 0, B: 1, Cost: -1}} {
		all = append(all, route.Map{N: 8, Roads: []route.Road{road}}, route.Map{N: 8, Roads: append(row().Roads, road)})
	}
	return all
}

// P9.2: the errors of Open, in their order.
func TestOpenErrors(t *testing.T) {
	for _, m := range badMaps() {
		d := diskOf(t, "day 1\n\nrest")
		for range 2 {
			if b, e := bank.Open(d, m); b != nil || e != api.ErrArg {
				t.Fatal(m, b, e)
			}
			if b, e := bank.Open(nil, m); b != nil || e != api.ErrNil {
				t.Fatal(m, b, e)
			}
			// The power goes off, which comes after ErrArg.
			d.Fuse(0)
			is(t, d.Sync(), api.ErrPower)
		}
		if b, e := bank.Open(d, row()); b != nil || e != api.ErrPower {
			t.Fatal(b, e)
		}
		d.Crash(0)
		same(t, read(t, d), "day 1\n\nrest")
	}
}

// P9.2: Open cuts if anything follows the books, then syncs, each of which may be where the power goes off.
func TestOpenOperations(t *testing.T) {
	for text, needed := range map[string]int{"": 1, "day 1\n\n": 1, "day 1\n\nday 2\n": 2, "\n": 2, "x": 2} {
		books := strings.Repeat("day 1\n\n", strings.Count(text, "1"))
		for k := range 4 {
			d := diskOf(t, text)
			d.Fuse(k)
			b, e := bank.Open(d, row())
			if k < needed {
				if b != nil || e != api.ErrPower {
					t.Fatal(text, k, b, e)
				}
				d.Crash(0)
				if k == 0 {
					same(t, read(t, d), text)
				}
				b = open(t, d, row())
			}
			same(t, read(t, d), books)
			same(t, strings.Join(b.Journal(), ","), strings.Repeat("day 1", len(books)/7))
			if k >= needed {
				d.Fuse(0)
			}
			d.Crash(0)
			same(t, read(t, d), books)
		}
	}
	// What was there but not yet safe becomes so.
	d := newDisk(t, 100)
	is(t, d.Append([]byte("day 1\n\nday 2\n\n")), api.OK)
	open(t, d, row())
	d.Crash(0)
	same(t, read(t, d), "day 1\n\nday 2\n\n")
}

// areBooks reports whether a text is whole groups of changes that have no error, by the definition.
func areBooks(m route.Map, text string) ([]string, bool) {
	if text == "" {
		return nil, true
	}
	if !strings.HasSuffix(text, "\n\n") {
		return nil, false
	}
	o := &model{m: m}
	var lines []string
	for _, group := range strings.Split(strings.TrimSuffix(text, "\n\n"), "\n\n") {
		for _, line := range strings.Split(group, "\n") {
			if _, e := o.do(line); e != api.OK {
				return nil, false
			}
			lines = append(lines, line)
		}
	}
	return lines, true
}

// longest is the longest part of a text, from its front, that is books, and their changes.
func longest(m route.Map, text string) (string, []string) {
	for n := len(text); ; n-- {
		if lines, are := areBooks(m, text[:n]); are {
			return text[:n], lines
		}
	}
}

// randomText is bytes that are often books, with something that follows.
func randomText(r *rand.Rand) string {
	text := ""
	for range r.Intn(10) {
		switch r.Intn(12) {
		case 0:
			text += pick(r, []string{"\n", "\n\n", "day 1", "\x00\xff", " ", "day 1 \n", "lots\n\n", "day 1\r\n\n", "give rice 1 1\n\n\n"})
		default:
			for range 1 + r.Intn(3) {
				text += pick(r, []string{"day 0", "day 1", "pantry ada 1", "pantry bob 2", "worth ada rice 3", "give rice 1 1", "give tea 2 9", "deal", "hand eva 1", "vote 0 1", "vote 1 0"}) + "\n"
			}
			text += "\n"
		}
	}
	return text[:len(text)-min(len(text), r.Intn(4)*r.Intn(2))]
}

// P9.2: the books are the longest whole groups without an error that the bytes begin with; what follows is cut off.
func TestOpenByDefinition(t *testing.T) {
	r := rand.New(rand.NewSource(1))
	whole, cut, few := 0, 0, 0
	for range 3000 {
		text := randomText(r)
		d := diskOf(t, text)
		b := open(t, d, row())
		books, lines := longest(row(), text)
		same(t, read(t, d), books)
		if !slices.Equal(b.Journal(), lines) || b.Safe() != len(lines) {
			t.Fatalf("%q: %q, %d, not %q", text, b.Journal(), b.Safe(), lines)
		}
		o := &model{m: row()}
		for _, line := range lines {
			o.do(line)
		}
		same(t, b.State(), o.state())
		is(t, b.Commit(), api.ErrNone)
		switch {
		case books == text:
			whole++
		case books == "":
			few++
		default:
			cut++
		}
	}
	if whole < 300 || cut < 300 || few < 300 {
		t.Error("too few of a kind", whole, cut, few)
	}
}

// P9.2: a group with an error is not in the books as a whole, and neither is what follows it.
func TestOpenTorn(t *testing.T) {
	for text, want := range map[string]string{
		"day 1\nday 2\n\nday 3\nday 2\n\nday 9\n\n": "day 1\nday 2\n\n",
		"day 1\nday 0\n\n":                          "",
		"\nday 1\n\n":                               "",
		"day 1\n\n\nday 2\n\n":                      "day 1\n\n",
		"day 1\n\nday 2\n":                          "day 1\n\n",
		"day 1\n\nday 2":                            "day 1\n\n",
		"day 1\n":                                   "",
		"lots\n\n":                                  "",
		"give rice 1 1\n\nday 1\n\nday 2\ndeal\n\n":    "give rice 1 1\n\nday 1\n\n",
		"pantry ada 1\n\ngive rice 1 1\ndeal\n\nx\n\n": "pantry ada 1\n\ngive rice 1 1\ndeal\n\n",
		"day 1\n \n\nday 2\n\n":                        "",
	} {
		d := diskOf(t, text)
		open(t, d, row())
		same(t, read(t, d), want)
	}
	// The disk may be as large as it can be.
	d := newDisk(t, 1000000)
	is(t, d.Append([]byte(strings.Repeat("day 0\n\n", 142857))), api.OK)
	if b := open(t, d, row()); b.Safe() != 142857 {
		t.Error(b.Safe())
	}
}

// Groups: each change and an empty line after each group are on the disk, safe from Commit on.
func TestGroups(t *testing.T) {
	d := newDisk(t, 1000)
	b := open(t, d, row())
	is(t, b.Commit(), api.ErrNone)
	do(t, b, "day 1", "pantry ada 1")
	same(t, read(t, d), "day 1\npantry ada 1\n")
	if b.Safe() != 0 || len(b.Journal()) != 2 {
		t.Error(b.Safe(), b.Journal())
	}
	is(t, b.Commit(), api.OK)
	is(t, b.Commit(), api.ErrNone)
	do(t, b, "give rice 1 1")
	is(t, b.Commit(), api.OK)
	same(t, read(t, d), "day 1\npantry ada 1\n\ngive rice 1 1\n\n")
	if b.Safe() != 3 {
		t.Error(b.Safe())
	}
	// A change with an error is not done, and is no reason for a group.
	refuses(t, b, "day 0", api.ErrArg)
	is(t, b.Commit(), api.ErrNone)
	ask(t, b, "lots")
	is(t, b.Commit(), api.ErrNone)
	do(t, b, "day 2")
	d.Crash(0)
	same(t, read(t, d), "day 1\npantry ada 1\n\ngive rice 1 1\n\n")
	x := open(t, d, row())
	same(t, strings.Join(x.Journal(), ","), "day 1,pantry ada 1,give rice 1 1")
	is(t, x.Commit(), api.ErrNone)
	do(t, x, "day 3")
	is(t, x.Commit(), api.OK)
	if x.Safe() != 4 {
		t.Error(x.Safe())
	}
	same(t, strings.Join(x.Journal(), ","), "day 1,pantry ada 1,give rice 1 1,day 3")
}

// P9.3, P9.4: ErrFull if the disk has no space, which Do keeps for Commit.
func TestNoSpace(t *testing.T) {
	for size := 1; size <= 14; size++ {
		d := newDisk(t, size)
		b := open(t, d, row())
		if size < 7 {
			refuses(t, b, "day 1", api.ErrFull)
			refuses(t, b, "day x", api.ErrForm)
			refuses(t, b, "deal", api.ErrNone)
			is(t, b.Commit(), api.ErrNone)
			same(t, read(t, d), "")
			continue
		}
		do(t, b, "day 1")
		if size < 13 {
			refuses(t, b, "day 2", api.ErrFull)
		} else {
			do(t, b, "day 2")
			refuses(t, b, "day 3", api.ErrFull)
		}
		is(t, b.Commit(), api.OK)
		if b.Safe() != len(b.Journal()) {
			t.Error(size, b.Safe())
		}
	}
	// A disk that somebody else fills leaves the group open until there is space again.
	d := newDisk(t, 100)
	b := open(t, d, row())
	do(t, b, "day 1")
	is(t, d.Append(make([]byte, 94)), api.OK)
	before := view(b)
	is(t, b.Commit(), api.ErrFull)
	same(t, view(b), before)
	refuses(t, b, "day 2", api.ErrFull)
	is(t, d.Cut(6), api.OK)
	do(t, b, "day 3")
	is(t, b.Commit(), api.OK)
	same(t, read(t, d), "day 1\nday 3\n\n")
	if b.Safe() != 2 {
		t.Error(b.Safe())
	}
}

// P9.3: a Do that the power loss stops is not done, and there is nothing more to do.
func TestPowerInDo(t *testing.T) {
	d := newDisk(t, 20)
	b := open(t, d, row())
	do(t, b, "day 1")
	is(t, b.Commit(), api.OK)
	d.Fuse(0)
	is(t, d.Sync(), api.ErrPower)
	// Other errors come before ErrPower, and the bank stays as it is.
	refuses(t, b, "day x", api.ErrForm)
	refuses(t, b, "day 0", api.ErrArg)
	refuses(t, b, "give rice 1 9", api.ErrFull)
	is(t, b.Commit(), api.ErrNone)
	refuses(t, b, "day 2", api.ErrPower)
	for range 2 {
		for _, line := range []string{"day 2", "day x", "day 0", "", "give rice 1 9"} {
			refuses(t, b, line, api.ErrState)
		}
		is(t, b.Commit(), api.ErrState)
		// Questions have their answers all the same.
		same(t, ask(t, b, "lots"), "lots")
		same(t, b.State(), "day 1\nlots\nenvy\n\n\n")
		same(t, strings.Join(b.Journal(), ","), "day 1")
		refusesToSay(t, b, "owns ada", api.ErrNone)
		// Also with the power on again.
		d.Crash(0)
	}
	same(t, read(t, d), "day 1\n\n")
}

// P9.4: a Commit that the power loss stops has not ended its group.
func TestPowerInCommit(t *testing.T) {
	for k := range 2 {
		d := newDisk(t, 100)
		b := open(t, d, row())
		do(t, b, "day 1")
		is(t, b.Commit(), api.OK)
		do(t, b, "day 2", "day 3")
		before := view(b)
		d.Fuse(k)
		is(t, b.Commit(), api.ErrPower)
		same(t, view(b), before)
		if b.Safe() != 1 || len(b.Journal()) != 3 {
			t.Error(b.Safe(), b.Journal())
		}
		is(t, b.Commit(), api.ErrState)
		refuses(t, b, "day 4", api.ErrState)
		d.Crash(100)
		is(t, b.Commit(), api.ErrState)
		x := open(t, d, row())
		if want := 1 + 2*k; x.Safe() != want || len(x.Journal()) != want {
			t.Error(k, x.Journal())
		}
	}
}

// Rule 5: no bank, or one that Open did not make, has ErrNil and zero values, and no effect.
func TestNoBank(t *testing.T) {
	made := fresh(t, "day 1")
	copied := *made
	before := view(made)
	for _, b := range []*bank.Bank{nil, {}, new(bank.Bank), &copied} {
		for _, line := range []string{"day 2", "x", "", "lots"} {
			if reply, e := b.Do(line); reply != "" || e != api.ErrNil {
				t.Error(line, reply, e)
			}
			if reply, e := b.Ask(line); reply != "" || e != api.ErrNil {
				t.Error(line, reply, e)
			}
		}
		is(t, b.Commit(), api.ErrNil)
		if b.Journal() != nil || b.Safe() != 0 || b.State() != "" {
			t.Error(b.Journal(), b.Safe(), b.State())
		}
	}
	same(t, view(made), before)
	is(t, made.Commit(), api.OK)
}

// P9.5: State has all its lines, and an error is an empty one.
func TestState(t *testing.T) {
	b := fresh(t, "pantry bob 2", "pantry ada 1")
	same(t, b.State(), "day 0\nlots\nowns\nowns\nenvy\n\n\n")
	do(t, b, "worth bob rice 1", "give rice 1 3", "give tea 2 1", "deal", "give oil 3 4", "day 2", "hand eva", "vote 0")
	same(t, b.State(), "day 2\nlots 3:oil:3:4\nowns 1\nowns 2\nenvy bob:ada\nturns eva:-\nbuy 0\n")
	cases(t, 100, func(b *bank.Bank, o *model, r *rand.Rand) { same(t, b.State(), o.state()) })
}

// P9.5: Journal has all changes that were done, in order, and no others.
func TestJournal(t *testing.T) {
	r := rand.New(rand.NewSource(1))
	for range 50 {
		d := newDisk(t, 100000)
		b, o := open(t, d, hub()), &model{m: hub()}
		var done []string
		safe := 0
		for range 60 {
			switch r.Intn(10) {
			case 0:
				want := api.OK
				if safe == len(done) {
					want = api.ErrNone
				}
				is(t, b.Commit(), want)
				safe = len(done)
			case 1:
				// A power loss with nothing that is not safe changes nothing.
				if safe == len(done) {
					d.Crash(0)
					b = open(t, d, hub())
				}
			default:
				line := randomLine(r, o.day)
				if _, e := b.Do(line); e == api.OK {
					done = append(done, line)
				}
				o.do(line)
			}
			if !slices.Equal(b.Journal(), done) || b.Safe() != safe {
				t.Fatal(fmt.Sprint(b.Journal(), done, b.Safe(), safe))
			}
		}
		same(t, b.State(), o.state())
	}
}
