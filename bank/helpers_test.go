package bank_test

import (
	"bytes"
	"fmt"
	"math/rand"
	"regexp"
	"slices"
	"strconv"
	"strings"
	"testing"

	"corrody/api"
	"corrody/bank"
	"corrody/route"
	"corrody/split"
)

// row is the map of the chapter's examples: eight stops in a row.
func row() route.Map {
	m := route.Map{N: 8}
	for i := range 7 {
		m.Roads = append(m.Roads, route.Road{A: i, B: i + 1, Cost: 2})
	}
	return m
}

// torn is a row in which no road joins the stops 3 and 4.
func torn() route.Map {
	m := row()
	m.Roads = slices.Delete(m.Roads, 3, 4)
	return m
}

// hub is a map on which it is best for many to go by stop 7, and the prices of all others are odd.
func hub() route.Map {
	m := route.Map{N: 8}
	for i := range 7 {
		m.Roads = append(m.Roads, route.Road{A: 7, B: i, Cost: 3})
	}
	for i := range 6 {
		m.Roads = append(m.Roads, route.Road{A: i + 1, B: i, Cost: 5})
	}
	return m
}

// randomMap is a map with 8 stops and up to 16 roads, so that there are trees for most pantries.
func randomMap(r *rand.Rand) route.Map {
	m := route.Map{N: 8}
	for range 7 + r.Intn(10) {
		a := r.Intn(8)
		m.Roads = append(m.Roads, route.Road{A: a, B: (a + 1 + r.Intn(7)) % 8, Cost: 1 + r.Intn(50)})
	}
	return m
}

// newDisk is an empty disk.
func newDisk(t *testing.T, size int) *bank.Disk {
	t.Helper()
	d, e := bank.NewDisk(size)
	if d == nil || e != api.OK {
		t.Fatal(d, e)
	}
	return d
}

// diskOf is a disk with some bytes, all safe.
func diskOf(t *testing.T, text string) *bank.Disk {
	t.Helper()
	d := newDisk(t, 100000)
	is(t, d.Append([]byte(text)), api.OK)
	is(t, d.Sync(), api.OK)
	return d
}

// read is all that is on a disk.
func read(t *testing.T, d *bank.Disk) string {
	t.Helper()
	b, e := d.Read()
	if e != api.OK {
		t.Fatal(e)
	}
	return string(b)
}

// open is a bank on a disk.
func open(t *testing.T, d *bank.Disk, m route.Map) *bank.Bank {
	t.Helper()
	b, e := bank.Open(d, m)
	if b == nil || e != api.OK {
		t.Fatal(b, e)
	}
	return b
}

// fresh is a bank in a row on a disk of its own, after some changes.
func fresh(t *testing.T, lines ...string) *bank.Bank {
	t.Helper()
	b := open(t, newDisk(t, 100000), row())
	do(t, b, lines...)
	return b
}

// do makes changes that have no error, and returns the reply to the last one.
func do(t *testing.T, b *bank.Bank, lines ...string) string {
	t.Helper()
	last := ""
	for _, line := range lines {
		reply, e := b.Do(line)
		if e != api.OK {
			t.Fatal(line, e)
		}
		last = reply
	}
	return last
}

// ask is the reply to a question that has no error.
func ask(t *testing.T, b *bank.Bank, line string) string {
	t.Helper()
	reply, e := b.Ask(line)
	if e != api.OK {
		t.Fatal(line, e)
	}
	return reply
}

// is fails if an error is another one than it should be.
func is(t *testing.T, e, want api.Errno) {
	t.Helper()
	if e != want {
		t.Fatalf("error %d, not %d", e, want)
	}
}

// same fails if two texts differ.
func same(t *testing.T, got, want string) {
	t.Helper()
	if got != want {
		t.Fatalf("%q, not %q", got, want)
	}
}

// refuses fails unless a change has an error and changes nothing that can be seen.
func refuses(t *testing.T, b *bank.Bank, line string, want api.Errno) {
	t.Helper()
	before := view(b)
	reply, e := b.Do(line)
	if e != want || reply != "" {
		t.Fatalf("%q: %q, error %d, not %d", line, reply, e, want)
	}
	same(t, view(b), before)
}

// refusesToSay fails unless a question has an error.
func refusesToSay(t *testing.T, b *bank.Bank, line string, want api.Errno) {
	t.Helper()
	if reply, e := b.Ask(line); e != want || reply != "" {
		t.Fatalf("%q: %q, error %d, not %d", line, reply, e, want)
	}
}

// questions are all questions that have an answer of interest in random banks.
func questions() []string {
	all := []string{"lots", "envy", "turns", "route", "pay", "buy", "first"}
	for _, name := range pantryNames() {
		all = append(all, "owns "+name)
	}
	for _, food := range foods() {
		for _, date := range []int{3, 5, 6} {
			all = append(all, fmt.Sprintf("recall %s %d", food, date))
		}
	}
	return all
}

// answers are the replies to all questions, and their errors.
func answers(b *bank.Bank) string {
	text := ""
	for _, line := range questions() {
		reply, e := b.Ask(line)
		text += fmt.Sprintln(line, reply, e)
	}
	return text
}

// view is all that can be seen of a bank.
func view(b *bank.Bank) string {
	return answers(b) + fmt.Sprintln(b.State(), b.Journal(), b.Safe())
}

func pantryNames() []string { return []string{"zoe", "bob", "ada", "cy", "abe"} }
func foods() []string       { return []string{"rice", "tea", "oil"} }
func handNames() []string {
	return []string{"tom", "eva", "ida", "pit", "eve", "kim", "al", "abcdefgh"}
}

// pick is one of some.
func pick[T any](r *rand.Rand, list []T) T { return list[r.Intn(len(list))] }

// randomLine is a change, which has an error rather often.
func randomLine(r *rand.Rand, day int) string {
	switch r.Intn(20) {
	case 0:
		return fmt.Sprint("day ", day+r.Intn(4)-1)
	case 1, 2, 3:
		return fmt.Sprint("pantry ", pick(r, pantryNames()), " ", r.Intn(9))
	case 4, 5, 6, 7:
		return fmt.Sprint("worth ", pick(r, pantryNames()), " ", pick(r, foods()), " ", r.Intn(22))
	case 8, 9, 10, 11:
		return fmt.Sprint("give ", pick(r, foods()), " ", r.Intn(7), " ", max(0, day+r.Intn(9)-1))
	case 12, 13:
		return "deal"
	case 14, 15:
		return "hand " + pick(r, handNames()) + numbers(r.Perm(4)[:r.Intn(5)])
	case 16, 17:
		return "vote" + numbers(r.Perm(3))
	case 18:
		return pick(r, []string{"vote", "hand", "hand tom", "hand al", "vote 0 2", "vote 0 0", "vote 1", "hand kim 4", "hand kim 1 1", "vote 0 1 2 3 4 5"}) + numbers(r.Perm(5)[:r.Intn(3)])
	}
	return pick(r, badForms())
}

// numbers are numbers with a blank before each.
func numbers(list []int) string {
	text := ""
	for _, x := range list {
		text += " " + strconv.Itoa(x)
	}
	return text
}

// badForms are no lines, and lines of no form.
func badForms() []string {
	return []string{
		"", " ", "deal ", " deal", "day  1", "day 1 ", "day\t1", "day 1\n", "\n", "day 1\r", "deal\x00", "deal\x7f", "déal", "deal\xff", "give riçe 1 1", strings.Repeat("a", 100), strings.Repeat("a", 101), "vote " + strings.Repeat("1 ", 60) + "1",
		"Day 1", "days 1", "da 1", "sell", "x", "0", "deal deal",
		"day", "day 1 2", "day x", "day -1", "day +1", "day 1.", "day 00", "day 01", "day 00000", "day 10000", "day 0x1", "day 1_0", "day ٣",
		"pantry", "pantry ada", "pantry 1 ada", "pantry ada 1 2", "pantry Ada 1", "pantry abcdefghi 1", "pantry a1 1", "pantry a-b 1", "pantry ada x", "pantry ada 01", "pantry é 1",
		"worth", "worth ada", "worth ada rice", "worth ada rice x", "worth ada 1 1", "worth 1 rice 1", "worth ada rice 1 1", "worth ada rice 020", "worth ada abcdefghi 1",
		"give", "give rice", "give rice 1", "give rice 1 2 3", "give rice x 1", "give rice 1 x", "give 1 1 1", "give Rice 1 1", "give rice 1 12345",
		"hand", "hand 1", "hand eva x", "hand eva 1 x", "hand Eva", "hand eva 0 1 2 3 4", "hand eva 0 1 2 3 3", "hand eva 01", "hand abcdefghi",
		"vote", "vote x", "vote 0 x", "vote 0 1 2 3 4 5", "vote 00", "vote 0 01", "vote -1",
		"lots", "envy", "turns", "route", "pay", "buy", "first", "owns ada", "recall rice 1",
	}
}

// badQuestions are no questions.
func badQuestions() []string {
	return []string{
		"", " ", "lots ", " lots", "lots\n", "lots 1", "Lots", "lot", "owns", "owns 1", "owns ada bob", "owns Ada", "owns abcdefghi", "owns ada 1", "recall", "recall rice", "recall rice x", "recall 1 rice", "recall rice 01", "recall rice 10000", "recall rice 1 1",
		"envy ada", "turns 0", "route 0", "pay ada", "buy 0", "first 1", "envy  ", "why", strings.Repeat("a", 101), "lots\xff",
		"day 1", "pantry ada 1", "worth ada rice 1", "give rice 1 1", "deal", "hand eva", "vote 0",
	}
}

// model is a bank by the definitions, written a second time: everything in the order in which it came.
type model struct {
	m        route.Map
	day      int
	pantries []modelPantry
	lots     []modelLot
	hands    []modelHand
	ballots  [][]int
}

type modelPantry struct {
	name   string
	stop   int
	worths []modelWorth // a later one counts
}

type modelWorth struct {
	food  string
	worth int
}

type modelLot struct {
	food, owner string // the owner - is nobody, and ! that it is gone
	units, date int
}

type modelHand struct {
	name  string
	turns []int
}

// changeForm is what a change looks like.
var changeForm = func() *regexp.Regexp {
	form := "day N|pantry A N|worth A A N|give A N N|deal|hand A( N){0,4}|vote( N){1,5}"
	form = strings.ReplaceAll(form, "N", "(0|[1-9][0-9]{0,3})")
	form = strings.ReplaceAll(form, "A", "[a-z]{1,8}")
	return regexp.MustCompile(`\A(` + form + `)\z`)
}()

// do makes a change, if it has no error.
func (o *model) do(line string) (string, api.Errno) {
	if !changeForm.MatchString(line) {
		return "", api.ErrForm
	}
	words := strings.Fields(line)
	var n []int
	for _, word := range words {
		if x, err := strconv.Atoi(word); err == nil {
			n = append(n, x)
		}
	}
	switch words[0] {
	case "day":
		return o.doDay(n[0])
	case "pantry":
		return o.doPantry(words[1], n[0])
	case "worth":
		return o.doWorth(words[1], words[2], n[0])
	case "give":
		return o.doGive(words[1], n[0], n[1])
	case "deal":
		return o.doDeal()
	case "hand":
		return o.doHand(words[1], n)
	}
	return o.doVote(n)
}

func (o *model) doDay(d int) (string, api.Errno) {
	if d < o.day {
		return "", api.ErrArg
	}
	o.day = d
	gone := 0
	for k := range o.lots {
		if o.lots[k].owner == "-" && o.lots[k].date < d {
			o.lots[k].owner = "!"
			gone++
		}
	}
	return fmt.Sprint("day ", gone), api.OK
}

func (o *model) find(name string) int {
	return slices.IndexFunc(o.pantries, func(p modelPantry) bool { return p.name == name })
}

func (o *model) doPantry(name string, stop int) (string, api.Errno) {
	if o.find(name) >= 0 {
		return "", api.ErrState
	}
	if len(o.pantries) >= 4 {
		return "", api.ErrFull
	}
	for _, p := range o.pantries {
		if p.stop == stop {
			return "", api.ErrArg
		}
	}
	if stop == 0 || stop > 7 {
		return "", api.ErrArg
	}
	o.pantries = append(o.pantries, modelPantry{name: name, stop: stop})
	return "pantry", api.OK
}

func (o *model) doWorth(name, food string, v int) (string, api.Errno) {
	at := o.find(name)
	if at < 0 {
		return "", api.ErrNone
	}
	if v > 20 {
		return "", api.ErrArg
	}
	o.pantries[at].worths = append(o.pantries[at].worths, modelWorth{food, v})
	return "worth", api.OK
}

func (o *model) doGive(food string, n, d int) (string, api.Errno) {
	if n == 0 || n > 5 || d < o.day {
		return "", api.ErrArg
	}
	if len(o.lots) >= 20 {
		return "", api.ErrFull
	}
	o.lots = append(o.lots, modelLot{food: food, owner: "-", units: n, date: d})
	return fmt.Sprint("give ", len(o.lots)), api.OK
}

// worth is what a lot is worth to a pantry.
func (o *model) worth(name string, l modelLot) int {
	worth := 0
	for _, w := range o.pantries[o.find(name)].worths {
		if w.food == l.food {
			worth = w.worth
		}
	}
	return worth * l.units
}

// names are the names of all pantries, in order.
func (o *model) names() []string {
	var names []string
	for _, p := range o.pantries {
		names = append(names, p.name)
	}
	slices.Sort(names)
	return names
}

// free are the indices of the lots that are in no pantry and not gone.
func (o *model) free() []int {
	var free []int
	for k, l := range o.lots {
		if l.owner == "-" {
			free = append(free, k)
		}
	}
	return free
}

func (o *model) doDeal() (string, api.Errno) {
	free := o.free()
	if len(o.pantries) == 0 || len(free) == 0 {
		return "", api.ErrNone
	}
	if len(free) > 7 {
		free = free[:7]
	}
	var values [][]int
	for _, name := range o.names() {
		var list []int
		for _, k := range free {
			list = append(list, o.worth(name, o.lots[k]))
		}
		values = append(values, list)
	}
	division, _ := split.Cycles(values)
	text := "deal"
	for at, k := range free {
		o.lots[k].owner = o.names()[division[at]]
		text += fmt.Sprintf(" %d:%s", k+1, o.lots[k].owner)
	}
	return text, api.OK
}

func (o *model) doHand(name string, list []int) (string, api.Errno) {
	for _, h := range o.hands {
		if h.name == name {
			return "", api.ErrState
		}
	}
	if len(o.hands) >= 6 {
		return "", api.ErrFull
	}
	seen := map[int]bool{}
	for _, turn := range list {
		if turn > 3 || seen[turn] {
			return "", api.ErrArg
		}
		seen[turn] = true
	}
	o.hands = append(o.hands, modelHand{name, list})
	return "hand", api.OK
}

func (o *model) doVote(list []int) (string, api.Errno) {
	if len(o.ballots) >= 9 {
		return "", api.ErrFull
	}
	sorted := slices.Sorted(slices.Values(list))
	for k, x := range sorted {
		if k != x {
			return "", api.ErrArg
		}
	}
	for _, other := range o.ballots {
		if len(other) != len(list) {
			return "", api.ErrArg
		}
	}
	o.ballots = append(o.ballots, list)
	return "vote", api.OK
}

// ask is the reply to a question of the right form.
func (o *model) ask(line string) (string, api.Errno) {
	words := strings.Fields(line)
	switch words[0] {
	case "lots":
		text := "lots"
		for _, k := range o.free() {
			text += fmt.Sprintf(" %d:%s:%d:%d", k+1, o.lots[k].food, o.lots[k].units, o.lots[k].date)
		}
		return text, api.OK
	case "owns":
		return o.askOwns(words[1])
	case "recall":
		text := "recall"
		for k, l := range o.lots {
			if l.food == words[1] && strconv.Itoa(l.date) == words[2] && o.find(l.owner) >= 0 {
				text += fmt.Sprintf(" %d:%s", k+1, l.owner)
			}
		}
		return text, api.OK
	case "envy":
		return o.askEnvy(), api.OK
	case "turns":
		return o.askTurns()
	case "route":
		cost, e := o.cost(o.names())
		if e != api.OK {
			return "", e
		}
		return fmt.Sprint("route ", cost), api.OK
	case "pay":
		return o.askPay()
	case "buy":
		return o.askBuy()
	}
	return o.askFirst()
}

func (o *model) askOwns(name string) (string, api.Errno) {
	if o.find(name) < 0 {
		return "", api.ErrNone
	}
	text := "owns"
	for k, l := range o.lots {
		if l.owner == name {
			text += fmt.Sprint(" ", k+1)
		}
	}
	return text, api.OK
}

func (o *model) askEnvy() string {
	text := "envy"
	for _, p := range o.names() {
		for _, q := range o.names() {
			more := 0
			for _, l := range o.lots {
				if l.owner == q {
					more += o.worth(p, l)
				}
				if l.owner == p {
					more -= o.worth(p, l)
				}
			}
			if more > 0 {
				text += " " + p + ":" + q
			}
		}
	}
	return text
}

// askTurns has the volunteers choose in the order in which they came: as all turns like them in this order, nothing else is stable.
func (o *model) askTurns() (string, api.Errno) {
	if len(o.hands) == 0 {
		return "", api.ErrNone
	}
	var room [4]int
	var parts []string
	for _, h := range o.hands {
		part := h.name + ":-"
		for _, turn := range h.turns {
			if room[turn] < 2 {
				room[turn]++
				part = fmt.Sprint(h.name, ":", turn)
				break
			}
		}
		parts = append(parts, part)
	}
	// A colon comes before all letters, so that the parts are in the order of the names.
	slices.SortFunc(parts, func(a, b string) int {
		return strings.Compare(strings.Split(a, ":")[0], strings.Split(b, ":")[0])
	})
	return "turns " + strings.Join(parts, " "), api.OK
}

// cost is the least cost of roads that join stop 0 and some pantries: the least over all sets of stops with these of what joins just the set.
func (o *model) cost(names []string) (int, api.Errno) {
	asked := 1
	for _, name := range names {
		asked |= 1 << o.pantries[o.find(name)].stop
	}
	least := -1
	for set := range 256 {
		if set&asked != asked {
			continue
		}
		if cost, is := joinAll(o.m, set); is && (least < 0 || cost < least) {
			least = cost
		}
	}
	if least < 0 {
		return 0, api.ErrNone
	}
	return least, api.OK
}

// joinAll is what it costs to join all stops of a set with roads between them, growing from stop 0 by the cheapest road.
func joinAll(m route.Map, set int) (int, bool) {
	joined, cost := 1, 0
	for joined != set {
		best := -1
		for k, road := range m.Roads {
			ends := 1<<road.A | 1<<road.B
			if ends&^set != 0 || ends&joined == 0 || ends&^joined == 0 {
				continue
			}
			if best < 0 || road.Cost < m.Roads[best].Cost {
				best = k
			}
		}
		if best < 0 {
			return 0, false
		}
		joined |= 1<<m.Roads[best].A | 1<<m.Roads[best].B
		cost += m.Roads[best].Cost
	}
	return cost, true
}

// orders are all orders of n numbers.
func orders(n int) [][]int {
	all := [][]int{nil}
	for range n {
		var longer [][]int
		for _, order := range all {
			for x := range n {
				if !slices.Contains(order, x) {
					longer = append(longer, append(slices.Clone(order), x))
				}
			}
		}
		all = longer
	}
	return all
}

// askPay averages over all orders what each pantry adds to the cost.
func (o *model) askPay() (string, api.Errno) {
	names := o.names()
	if _, e := o.cost(names); len(names) == 0 || e != api.OK {
		return "", api.ErrNone
	}
	sums := map[string]int{}
	all := orders(len(names))
	for _, order := range all {
		var there []string
		before := 0
		for _, x := range order {
			there = append(there, names[x])
			cost, _ := o.cost(there)
			sums[names[x]] += cost - before
			before = cost
		}
	}
	text := "pay"
	for _, name := range names {
		num, den := sums[name], len(all)
		for f := den; f > 1; f-- {
			if num%f == 0 && den%f == 0 {
				num, den = num/f, den/f
			}
		}
		text += fmt.Sprint(" ", name, ":", num)
		if den > 1 {
			text += fmt.Sprint("/", den)
		}
	}
	return text, api.OK
}

// askBuy finds all widths by allowing one more candidate on the paths at a time.
func (o *model) askBuy() (string, api.Errno) {
	if len(o.ballots) == 0 {
		return "", api.ErrNone
	}
	c := len(o.ballots[0])
	var width [5][5]int
	for a := range c {
		for b := range c {
			for _, ballot := range o.ballots {
				if slices.Index(ballot, a) < slices.Index(ballot, b) {
					width[a][b]++
					width[b][a]--
				}
			}
		}
	}
	for by := range c {
		for a := range c {
			for b := range c {
				if a != b && a != by && b != by {
					width[a][b] = max(width[a][b], min(width[a][by], width[by][b]))
				}
			}
		}
	}
	for a := range c {
		strong := true
		for b := range c {
			strong = strong && (a == b || width[a][b] >= width[b][a])
		}
		if strong {
			return fmt.Sprint("buy ", a), api.OK
		}
	}
	panic("no winner")
}

// askFirst tries all sets of lots.
func (o *model) askFirst() (string, api.Errno) {
	free := o.free()
	if len(free) == 0 {
		return "", api.ErrNone
	}
	free = free[:min(8, len(free))]
	var best []int
	for set := range 1 << len(free) {
		var those []int
		for at, k := range free {
			if set>>at&1 == 1 {
				those = append(those, k)
			}
		}
		if len(those) > len(best) && o.onTime(those) {
			best = those
		}
	}
	text := "first"
	for _, k := range best {
		text += fmt.Sprint(" ", k+1)
	}
	return text, api.OK
}

// onTime reports whether some lots are all on time in the order of their dates.
func (o *model) onTime(those []int) bool {
	sorted := slices.Clone(those)
	slices.SortStableFunc(sorted, func(a, b int) int { return o.lots[a].date - o.lots[b].date })
	end := 0
	for _, k := range sorted {
		end += o.lots[k].units
		if end > min(200, o.lots[k].date-o.day+1) {
			return false
		}
	}
	return true
}

// state is the state as a text.
func (o *model) state() string {
	lines := []string{"lots"}
	for _, name := range o.names() {
		lines = append(lines, "owns "+name)
	}
	var text bytes.Buffer
	fmt.Fprintln(&text, "day", o.day)
	for _, line := range append(lines, "envy", "turns", "buy") {
		reply, _ := o.ask(line)
		fmt.Fprintln(&text, reply)
	}
	return text.String()
}

// cases calls f with count banks in which random changes were tried, and with what was done in each of them.
func cases(t *testing.T, count int, f func(b *bank.Bank, o *model, r *rand.Rand)) {
	t.Helper()
	r := rand.New(rand.NewSource(1))
	maps := []route.Map{row(), torn(), hub()}
	for k := range count {
		m := randomMap(r)
		if k < len(maps) {
			m = maps[k]
		}
		b, o := open(t, newDisk(t, 100000), m), &model{m: m}
		for range r.Intn(110) {
			line := randomLine(r, o.day)
			reply, e := b.Do(line)
			if want, wanted := o.do(line); reply != want || e != wanted {
				t.Fatalf("%q after %q: %q, %d, not %q, %d", line, b.Journal(), reply, e, want, wanted)
			}
		}
		f(b, o, r)
	}
}
