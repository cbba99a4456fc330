package bank_test

import (
	"math/rand"
	"strings"
	"testing"

	"corrody/api"
	"corrody/bank"
)

// P9.3: all questions have the replies and errors of the definition.
func TestQuestionsByDefinition(t *testing.T) {
	count := map[string]int{}
	cases(t, 300, func(b *bank.Bank, o *model, r *rand.Rand) {
		for _, line := range questions() {
			reply, e := b.Ask(line)
			if want, wanted := o.ask(line); reply != want || e != wanted {
				t.Fatalf("%q after %q: %q, %d, not %q, %d", line, b.Journal(), reply, e, want, wanted)
			}
			word := strings.Fields(line)[0]
			if e != api.OK {
				count[word+" none"]++
			} else if strings.Contains(reply, " ") {
				count[word]++
			}
		}
	})
	for _, word := range strings.Fields("lots owns recall envy turns route pay buy first") {
		if count[word] < 50 {
			t.Error("too few of a kind", word, count[word])
		}
	}
	for _, word := range strings.Fields("owns turns route pay buy first") {
		if count[word+" none"] < 5 {
			t.Error("too few without an answer", word, count[word+" none"])
		}
	}
}

// P9.3: ErrForm for what is no question.
func TestNoQuestion(t *testing.T) {
	for _, b := range []*bank.Bank{fresh(t), full(t)} {
		for _, line := range badQuestions() {
			refusesToSay(t, b, line, api.ErrForm)
		}
	}
}

// P9.3: ErrNone where there is nothing to reply; an empty bank has no lots, no envy, and goes nowhere.
func TestEmptyBank(t *testing.T) {
	b := fresh(t)
	for _, line := range []string{"owns ada", "turns", "pay", "buy", "first"} {
		refusesToSay(t, b, line, api.ErrNone)
	}
	for line, want := range map[string]string{"lots": "lots", "envy": "envy", "recall rice 1": "recall", "route": "route 0"} {
		same(t, ask(t, b, line), want)
	}
	same(t, b.State(), "day 0\nlots\nenvy\n\n\n")
}

// The chapter's examples.
func TestExamples(t *testing.T) {
	b := fresh(t, "pantry ada 1", "pantry bob 2", "worth ada rice 2", "worth bob rice 1")
	same(t, do(t, b, "give rice 5 10"), "give 1")
	same(t, do(t, b, "give rice 3 12"), "give 2")
	same(t, do(t, b, "deal"), "deal 1:ada 2:bob")
	same(t, ask(t, b, "envy"), "envy bob:ada")
	same(t, ask(t, b, "route"), "route 4")
	same(t, ask(t, b, "pay"), "pay ada:1 bob:3")
	same(t, ask(t, b, "recall rice 10"), "recall 1:ada")
	do(t, b, "hand eva 1 0", "hand tom", "vote 1 0")
	same(t, ask(t, b, "turns"), "turns eva:1 tom:-")
	same(t, ask(t, b, "buy"), "buy 1")
	do(t, b, "give tea 2 3", "give tea 3 4")
	same(t, ask(t, b, "first"), "first 3 4")
	same(t, b.State(), "day 0\nlots 3:tea:2:3 4:tea:3:4\nowns 1\nowns 2\nenvy bob:ada\nturns eva:1 tom:-\nbuy 1\n")
	same(t, do(t, b, "day 4"), "day 1")
	same(t, ask(t, b, "first"), "first")
}

// recall is by food and date, and only of what is in pantries.
func TestRecall(t *testing.T) {
	b := fresh(t, "pantry bob 1", "pantry ada 2", "worth bob rice 1", "worth ada rice 1", "give rice 1 5", "give rice 2 5", "give rice 1 6", "give tea 1 5", "deal", "give rice 1 5")
	same(t, ask(t, b, "recall rice 5"), "recall 1:ada 2:bob")
	same(t, ask(t, b, "recall rice 6"), "recall 3:ada")
	same(t, ask(t, b, "recall rice 7"), "recall")
	same(t, ask(t, b, "recall oil 5"), "recall")
	// What is in a pantry is recalled after its date too.
	do(t, b, "day 9")
	same(t, ask(t, b, "recall rice 5"), "recall 1:ada 2:bob")
}

// envy has pairs by names, and both directions are possible.
func TestEnvy(t *testing.T) {
	b := fresh(t, "pantry zoe 1", "pantry ada 2", "worth ada tea 1", "give tea 1 9", "give oil 1 9", "deal")
	same(t, ask(t, b, "owns ada"), "owns 1 2")
	do(t, b, "worth zoe oil 3")
	same(t, ask(t, b, "envy"), "envy zoe:ada")
	// What is worth equally much is not envied.
	do(t, b, "worth ada tea 0", "worth zoe oil 0")
	same(t, ask(t, b, "envy"), "envy")
	// Two who no longer like what they were dealt may both envy the other one.
	b = fresh(t, "pantry zoe 1", "pantry ada 2", "worth ada rice 1", "worth zoe rice 1", "worth zoe tea 1", "give rice 1 9", "give tea 1 9", "deal")
	same(t, ask(t, b, "owns ada"), "owns 1")
	do(t, b, "worth ada tea 2", "worth zoe rice 2")
	same(t, ask(t, b, "envy"), "envy ada:zoe zoe:ada")
}

// turns has two places each, and the volunteers who came first come first.
func TestTurns(t *testing.T) {
	b := fresh(t, "hand zed 2 1", "hand kim 2 3", "hand ann 2 3 1", "hand bo 2", "hand cal 3 0", "hand abe 3 2 1")
	same(t, ask(t, b, "turns"), "turns abe:1 ann:3 bo:- cal:3 kim:2 zed:2")
}

// route and pay have no answer if there is no tree, and shares that are no numbers are written as two.
func TestPay(t *testing.T) {
	b := open(t, newDisk(t, 1000), torn())
	same(t, ask(t, b, "route"), "route 0")
	do(t, b, "pantry ada 3")
	same(t, ask(t, b, "route"), "route 6")
	same(t, ask(t, b, "pay"), "pay ada:6")
	do(t, b, "pantry bob 4")
	refusesToSay(t, b, "route", api.ErrNone)
	refusesToSay(t, b, "pay", api.ErrNone)
	b = fresh(t, "pantry di 5", "pantry cy 1", "pantry bob 2", "pantry ada 3")
	same(t, ask(t, b, "route"), "route 10")
	same(t, ask(t, b, "pay"), "pay ada:13/6 bob:7/6 cy:1/2 di:37/6")
	b = open(t, newDisk(t, 1000), hub())
	do(t, b, "pantry ada 1", "pantry bob 2", "pantry cy 3")
	same(t, ask(t, b, "route"), "route 12")
	same(t, ask(t, b, "pay"), "pay ada:11/3 bob:25/6 cy:25/6")
	// On a map without roads there is only the bank itself.
	m := row()
	m.Roads = nil
	b = open(t, newDisk(t, 1000), m)
	same(t, ask(t, b, "route"), "route 0")
	do(t, b, "pantry ada 1")
	refusesToSay(t, b, "route", api.ErrNone)
	refusesToSay(t, b, "pay", api.ErrNone)
}

// first has only the first 8 lots, whose Dues are at most 200.
func TestFirst(t *testing.T) {
	b := fresh(t)
	for range 8 {
		do(t, b, "give rice 5 3")
	}
	do(t, b, "give tea 1 9")
	same(t, ask(t, b, "first"), "first")
	do(t, b, "day 1", "pantry ada 1", "deal")
	same(t, ask(t, b, "first"), "first 9")
	b = fresh(t, "give rice 5 9999", "give rice 5 199", "give rice 1 0", "give rice 2 1", "give rice 2 2")
	same(t, ask(t, b, "first"), "first 1 2 3 5")
	// On the day of its date a single unit is still on time.
	b = fresh(t, "day 7", "give rice 1 7", "give rice 2 7")
	same(t, ask(t, b, "first"), "first 1")
	b = fresh(t, "day 7", "give rice 2 7")
	same(t, ask(t, b, "first"), "first")
}

// buy is by rule 2: of equally strong candidates the least one.
func TestBuy(t *testing.T) {
	b := fresh(t, "vote 0 1 2", "vote 0 1 2", "vote 1 2 0", "vote 1 2 0", "vote 2 1 0")
	same(t, ask(t, b, "buy"), "buy 1")
	b = fresh(t, "vote 2 1 0", "vote 0 1 2")
	same(t, ask(t, b, "buy"), "buy 0")
	same(t, ask(t, fresh(t, "vote 0"), "buy"), "buy 0")
	// By the rules 0, 1 and 3 others would win: 1, 2 and 2.
	b = fresh(t, "vote 3 0 1 2", "vote 1 2 0 3", "vote 2 3 0 1")
	same(t, ask(t, b, "buy"), "buy 0")
}
