package bank_test

import (
	"fmt"
	"math/rand"
	"slices"
	"strconv"
	"strings"
	"testing"

	"corrody/api"
	"corrody/bank"
	"corrody/route"
	"corrody/turns"
)

// script is changes and commits, an empty string being one.
func script() []string {
	return []string{"pantry ada 1", "", "pantry bob 2", "worth ada rice 2", "worth bob rice 1", "", "give rice 5 10", "give rice 3 12", "deal", "", "hand eva 1 0", "", "vote 1 0", "give tea 2 3", "day 4"}
}

// outcome is what a run of a script came to.
type outcome struct {
	kept   []string // what Commit acknowledged
	group  []string // what was done after that
	ending bool     // the power went off in a Commit
	off    bool
}

// run follows a script until the power goes off.
func run(t *testing.T, b *bank.Bank, lines []string) outcome {
	t.Helper()
	o := outcome{kept: b.Journal()}
	for _, line := range lines {
		e := api.OK
		if line == "" {
			e = b.Commit()
		} else {
			_, e = b.Do(line)
		}
		switch {
		case e == api.ErrPower:
			o.off, o.ending = true, line == ""
			return o
		case e != api.OK:
			t.Fatal(line, e)
		case line == "":
			o.kept, o.group = append(o.kept, o.group...), nil
		default:
			o.group = append(o.group, line)
		}
	}
	return o
}

// reopened opens a bank after a power loss, and fails unless it has what it should have. It reports whether it has the group whose Commit returned ErrPower.
func (o outcome) reopened(t *testing.T, d *bank.Disk) (*bank.Bank, bool) {
	t.Helper()
	b := open(t, d, row())
	journal := b.Journal()
	more := slices.Concat(o.kept, o.group)
	switch {
	case slices.Equal(journal, o.kept):
	case o.ending && slices.Equal(journal, more):
	default:
		t.Fatal(journal, o)
	}
	if b.Safe() != len(journal) {
		t.Fatal(b.Safe(), journal)
	}
	x := open(t, newDisk(t, 100000), row())
	do(t, x, journal...)
	same(t, b.State(), x.State())
	return b, len(journal) > len(o.kept)
}

// P9.6, and P6 of the whole: a power loss at any operation keeps what Commit acknowledged, and groups whole, whatever Crash keeps.
func TestDurability(t *testing.T) {
	lost, kept := 0, 0
	for k := 0; ; k++ {
		for keep := range 60 {
			d := newDisk(t, 100000)
			b := open(t, d, row())
			d.Fuse(k)
			o := run(t, b, script())
			if !o.off {
				if k < 15 {
					t.Fatal("the power did not go off", k)
				}
				if lost < 100 || kept < 100 {
					t.Error("too few of a kind", lost, kept)
				}
				return
			}
			d.Crash(keep)
			x, has := o.reopened(t, d)
			if has {
				kept++
			} else if o.ending {
				lost++
			}
			// The bank goes on from there.
			do(t, x, "give oil 1 9")
			is(t, x.Commit(), api.OK)
			d.Crash(0)
			if y := open(t, d, row()); !slices.Equal(y.Journal(), append(x.Journal()[:x.Safe()-1], "give oil 1 9")) {
				t.Fatal(y.Journal(), x.Journal())
			}
		}
	}
}

// P9.6: likewise if the power goes off again while Open puts the disk in order, and while the bank goes on.
func TestDurabilityAgain(t *testing.T) {
	r := rand.New(rand.NewSource(1))
	again := 0
	for range 5000 {
		d := newDisk(t, 100000)
		b := open(t, d, row())
		o := run(t, b, []string{"pantry ada 1", ""})
		for range 6 {
			if r.Intn(2) == 0 {
				d.Fuse(r.Intn(3))
				if _, e := bank.Open(d, row()); e == api.ErrPower {
					again++
				}
				d.Crash(r.Intn(40))
			}
			b, _ := o.reopened(t, d)
			before := b.Safe()
			d.Fuse(r.Intn(8))
			// A group goes on where the one before was lost.
			o = run(t, b, randomScript(r))
			if len(o.kept) < before {
				t.Fatal(o, before)
			}
			d.Crash(r.Intn(40))
		}
	}
	if again < 1000 {
		t.Error("too few of a kind", again)
	}
}

// randomScript is changes that have no error in any order once there is a pantry, and commits that end something.
func randomScript(r *rand.Rand) []string {
	var lines []string
	for range r.Intn(8) {
		if r.Intn(3) == 0 && len(lines) > 0 && lines[len(lines)-1] != "" {
			lines = append(lines, "")
		} else {
			lines = append(lines, fmt.Sprint("worth ada ", pick(r, foods()), " ", r.Intn(21)))
		}
	}
	return lines
}

// P9.7: State is that of doing the Journal on a new bank, however it is divided into groups; Commits change no state.
func TestReplay(t *testing.T) {
	cases(t, 100, func(b *bank.Bank, o *model, r *rand.Rand) {
		before := b.State() + answers(b)
		x := open(t, newDisk(t, 100000), o.m)
		for _, line := range b.Journal() {
			do(t, x, line)
			if r.Intn(3) == 0 {
				state := x.State()
				is(t, x.Commit(), api.OK)
				same(t, x.State(), state)
			}
		}
		same(t, x.State()+answers(x), before)
		if len(b.Journal()) > 0 {
			is(t, b.Commit(), api.OK)
		}
		same(t, b.State()+answers(b), before)
	})
}

// P9.8, and P5 of the whole: what a deal of at most 7 lots gives to empty pantries is up to one.
func TestFair(t *testing.T) {
	r := rand.New(rand.NewSource(1))
	envied := 0
	for range 1000 {
		b, o := fresh(t), &model{m: row()}
		try := func(line string) {
			o.do(line)
			b.Do(line)
		}
		for k := range 1 + r.Intn(4) {
			try(fmt.Sprintf("pantry %s %d", pantryNames()[k], k+1))
			for _, food := range foods() {
				try(fmt.Sprintf("worth %s %s %d", pantryNames()[k], food, r.Intn(21)))
			}
		}
		for range 1 + r.Intn(7) {
			try(fmt.Sprintf("give %s %d 9", pick(r, foods()), 1+r.Intn(5)))
		}
		try("deal")
		if ask(t, b, "envy") != "envy" {
			envied++
		}
		for _, p := range o.names() {
			for _, q := range o.names() {
				if !upToOne(t, b, o, p, q) {
					t.Fatal(b.Journal(), p, q)
				}
			}
		}
	}
	if envied < 200 {
		t.Error("too few of a kind", envied)
	}
}

// numbersOf are the numbers in a reply, after its first word, up to a colon each.
func numbersOf(reply string) []int {
	var l []int
	for _, word := range strings.Fields(reply)[1:] {
		word, _, _ = strings.Cut(word, ":")
		n, _ := strconv.Atoi(word)
		l = append(l, n)
	}
	return l
}

// upToOne reports whether pantry p would not envy q without some lot of q.
func upToOne(t *testing.T, b *bank.Bank, o *model, p, q string) bool {
	own, other, most := 0, 0, 0
	for _, n := range numbersOf(ask(t, b, "owns "+p)) {
		own += o.worth(p, o.lots[n-1])
	}
	for _, n := range numbersOf(ask(t, b, "owns "+q)) {
		worth := o.worth(p, o.lots[n-1])
		other, most = other+worth, max(most, worth)
	}
	return own >= other-most
}

// P9.9: each lot is in one pantry, in none, or gone, and its units are those that were given.
func TestUnits(t *testing.T) {
	cases(t, 200, func(b *bank.Bank, o *model, r *rand.Rand) {
		var all []int
		for _, p := range o.names() {
			all = append(all, numbersOf(ask(t, b, "owns "+p))...)
		}
		all = append(all, numbersOf(ask(t, b, "lots"))...)
		for k, l := range o.lots {
			if l.owner == "!" {
				all = append(all, k+1)
			}
		}
		slices.Sort(all)
		if len(all) != len(o.lots) || len(slices.Compact(all)) != len(o.lots) {
			t.Fatal(b.Journal(), all)
		}
		units := 0
		for _, line := range b.Journal() {
			if words := strings.Fields(line); words[0] == "give" {
				n, _ := strconv.Atoi(words[2])
				units += n
			}
		}
		for _, l := range o.lots {
			units -= l.units
		}
		for _, word := range strings.Fields(ask(t, b, "lots"))[1:] {
			parts := strings.Split(word, ":")
			n, _ := strconv.Atoi(parts[0])
			if parts[2] != strconv.Itoa(o.lots[n-1].units) {
				t.Fatal(b.Journal(), word)
			}
		}
		if units != 0 {
			t.Fatal(b.Journal(), units)
		}
	})
}

// P9.10, and P5 of the whole: the parts of pay sum to route, and no pantry pays more than its own tree, or less than 0.
func TestPaying(t *testing.T) {
	paid := 0
	cases(t, 300, func(b *bank.Bank, o *model, r *rand.Rand) {
		reply, e := b.Ask("pay")
		if e != api.OK {
			return
		}
		paid++
		all := strings.Fields(ask(t, b, "route"))[1]
		sum := 0
		for _, word := range strings.Fields(reply)[1:] {
			name, part, _ := strings.Cut(word, ":")
			x := open(t, newDisk(t, 1000), o.m)
			do(t, x, fmt.Sprint("pantry ", name, " ", o.pantries[o.find(name)].stop))
			own, _ := strconv.Atoi(strings.Fields(ask(t, x, "route"))[1])
			// Twelfths are whole, as are all fractions of four.
			units := twelfths(t, part)
			if units < 0 || units > 12*own {
				t.Fatal(reply, name, own)
			}
			sum += units
		}
		if total, _ := strconv.Atoi(all); sum != 12*total {
			t.Fatal(reply, all)
		}
	})
	if paid < 100 {
		t.Error("too few of a kind", paid)
	}
}

// twelfths are a number, or a fraction in lowest terms, times 12.
func twelfths(t *testing.T, part string) int {
	t.Helper()
	num, den, is := strings.Cut(part, "/")
	if !is {
		den = "1"
	}
	n, _ := strconv.Atoi(num)
	d, _ := strconv.Atoi(den)
	if d < 1 || 12%d != 0 || is && d == 1 {
		t.Fatal(part)
	}
	for f := 2; f <= d; f++ {
		if n%f == 0 && d%f == 0 {
			t.Fatal(part)
		}
	}
	return n * 12 / d
}

// P9.11: the reply to turns is a stable matching, and has all volunteers by their names.
func TestStableTurns(t *testing.T) {
	all, without := 0, 0
	cases(t, 300, func(b *bank.Bank, o *model, r *rand.Rand) {
		if len(o.hands) == 0 {
			return
		}
		p := turns.Plan{Shifts: make([][]int, 4), Places: []int{2, 2, 2, 2}}
		m := make([]int, len(o.hands))
		var names []string
		for k, h := range o.hands {
			p.Hands = append(p.Hands, h.turns)
			for s := range p.Shifts {
				p.Shifts[s] = append(p.Shifts[s], k)
			}
		}
		for _, word := range strings.Fields(ask(t, b, "turns"))[1:] {
			name, turn, _ := strings.Cut(word, ":")
			names = append(names, name)
			k := slices.IndexFunc(o.hands, func(h modelHand) bool { return h.name == name })
			m[k] = -1
			if turn != "-" {
				m[k], _ = strconv.Atoi(turn)
			} else if len(o.hands[k].turns) > 0 {
				without++
			}
			all++
		}
		if pairs, e := turns.Blocks(p, m); e != api.OK || len(pairs) != 0 || len(names) != len(o.hands) || !slices.IsSorted(names) {
			t.Fatal(b.Journal(), m, pairs, e)
		}
	})
	if all < 500 || without < 5 {
		t.Error("too few of a kind", all, without)
	}
}

// P9.12: nothing in lots has a date that has passed, on any day.
func TestDates(t *testing.T) {
	seen := 0
	cases(t, 200, func(b *bank.Bank, o *model, r *rand.Rand) {
		for range 4 {
			for _, word := range strings.Fields(ask(t, b, "lots"))[1:] {
				date, _ := strconv.Atoi(strings.Split(word, ":")[3])
				if seen++; date < o.day {
					t.Fatal(b.Journal(), word)
				}
			}
			line := fmt.Sprint("day ", o.day+1)
			o.do(line)
			do(t, b, line)
		}
	})
	if seen < 500 {
		t.Error("too few of a kind", seen)
	}
}

// P9.13: Ask never changes State, nor anything else.
func TestAsking(t *testing.T) {
	cases(t, 100, func(b *bank.Bank, o *model, r *rand.Rand) {
		before := view(b)
		for range 2 {
			for _, line := range slices.Concat(questions(), badQuestions(), badForms()) {
				b.Ask(line)
			}
		}
		same(t, view(b), before)
	})
}

// P9.14: the order in which pantries were opened, with their worths, changes no reply.
func TestOrderOfPantries(t *testing.T) {
	r := rand.New(rand.NewSource(1))
	for range 40 {
		var opened [][]string
		n := 2 + r.Intn(3)
		for k := range n {
			group := []string{fmt.Sprintf("pantry %s %d", pantryNames()[k], 7-k)}
			for _, food := range foods() {
				group = append(group, fmt.Sprintf("worth %s %s %d", pantryNames()[k], food, r.Intn(21)))
			}
			opened = append(opened, group)
		}
		var rest []string
		for range 30 {
			rest = append(rest, randomLine(r, 0))
		}
		m, first := randomMap(r), ""
		for _, order := range orders(n) {
			b := open(t, newDisk(t, 100000), m)
			for _, k := range order {
				do(t, b, opened[k]...)
			}
			text := ""
			for _, line := range rest {
				reply, e := b.Do(line)
				text += fmt.Sprintln(line, reply, e)
			}
			text += answers(b) + b.State()
			if first == "" {
				first = text
			}
			same(t, text, first)
		}
	}
}

// Rules 2 and 4: the same calls give the same results, change no argument, and share no memory with anything.
func TestMemory(t *testing.T) {
	calls := func() string {
		m := hub()
		d := newDisk(t, 100000)
		text := []byte("pantry ada 1\n\npantry bob 2\n\nrest")
		is(t, d.Append(text), api.OK)
		same(t, string(text), "pantry ada 1\n\npantry bob 2\n\nrest")
		clear(text)
		got, _ := d.Read()
		clear(got[:cap(got)])
		b := open(t, d, m)
		if !slices.Equal(m.Roads, hub().Roads) {
			t.Error("an argument is changed", m)
		}
		for k := range m.Roads {
			m.Roads[k] = route.Road{}
		}
		do(t, b, "give rice 1 1", "deal")
		journal := b.Journal()
		// What is appended to a result, or written into it, is nowhere else.
		_ = append(journal, "x")
		clear(journal[:cap(journal)])
		do(t, b, "give tea 1 1")
		is(t, b.Commit(), api.OK)
		all, _ := d.Read()
		_ = append(all, 'x')
		do(t, b, "hand eva 0 1", "vote 0 1", "hand tom 1", "vote 1 0")
		return view(b) + read(t, d)
	}
	first := calls()
	same(t, calls(), first)
	if !strings.Contains(first, "route 9") || !strings.Contains(first, "[pantry ada 1 pantry bob 2 give rice 1 1 deal give tea 1 1 hand eva 0 1 vote 0 1 hand tom 1 vote 1 0]") {
		t.Error(first)
	}
}

// P9.2: two banks on two disks have nothing in common, and a disk's books may be opened as often as one likes.
func TestApart(t *testing.T) {
	d := newDisk(t, 1000)
	a := open(t, d, row())
	b := fresh(t, "day 3")
	do(t, a, "pantry ada 1", "worth ada rice 1", "give rice 1 9")
	is(t, a.Commit(), api.OK)
	before := view(a)
	do(t, b, "pantry ada 2", "give rice 1 9", "deal")
	same(t, view(a), before)
	x := open(t, d, row())
	y := open(t, d, row())
	do(t, x, "deal")
	same(t, view(a), before)
	same(t, view(y), before)
}
