package bank_test

import (
	"fmt"
	"math/rand"
	"testing"

	"corrody/api"
	"corrody/bank"
)

// P9.3: all changes have the replies and errors of the definition (cases compares them).
func TestChangesByDefinition(t *testing.T) {
	done := 0
	cases(t, 300, func(b *bank.Bank, o *model, r *rand.Rand) { done += len(b.Journal()) })
	if done < 5000 {
		t.Error("too few of a kind", done)
	}
}

// P9.3: ErrForm for what is no change, before all its other errors.
func TestForms(t *testing.T) {
	for _, b := range []*bank.Bank{fresh(t), full(t)} {
		for _, line := range badForms() {
			refuses(t, b, line, api.ErrForm)
		}
	}
	// The longest and the shortest words are fine.
	b := fresh(t)
	do(t, b, "pantry abcdefgh 1", "pantry z 2", "worth abcdefgh zyxwvuts 20", "worth z a 0", "give zyxwvuts 5 9999", "hand abcdefgh 3 2 1 0", "hand z", "vote 4 3 2 1 0", "day 0", "day 9999")
	same(t, ask(t, b, "lots"), "lots 1:zyxwvuts:5:9999")
}

// full is a bank in which nothing more has space.
func full(t *testing.T) *bank.Bank {
	b := fresh(t, "day 5", "pantry ada 1", "pantry bob 2", "pantry cy 3", "pantry di 4")
	for range 20 {
		do(t, b, "give rice 1 9")
	}
	for k := range 6 {
		do(t, b, "hand h"+string(rune('a'+k)))
	}
	for range 9 {
		do(t, b, "vote 0 1")
	}
	return b
}

// P9.3: the changes' other errors, in their order.
func TestChangeErrors(t *testing.T) {
	b := full(t)
	for line, want := range map[string]api.Errno{
		"day 4": api.ErrArg, "day 0": api.ErrArg,
		"pantry ada 0": api.ErrState, "pantry ada 1": api.ErrState, "pantry di 7": api.ErrState, "pantry ed 5": api.ErrFull, "pantry ed 0": api.ErrFull, "pantry ed 1": api.ErrFull,
		"worth ed rice 1": api.ErrNone, "worth ed rice 21": api.ErrNone, "worth ada rice 21": api.ErrArg, "worth ada rice 9999": api.ErrArg,
		"give rice 0 9": api.ErrArg, "give rice 6 9": api.ErrArg, "give rice 1 4": api.ErrArg, "give rice 1 5": api.ErrFull, "give rice 5 9999": api.ErrFull,
		"hand ha": api.ErrState, "hand ha 4": api.ErrState, "hand hf 1": api.ErrState, "hand hg": api.ErrFull, "hand hg 4": api.ErrFull,
		"vote 0 1": api.ErrFull, "vote 1 1": api.ErrFull, "vote 0": api.ErrFull,
	} {
		refuses(t, b, line, want)
	}
	b = fresh(t, "pantry ada 1", "pantry bob 7", "hand eva", "vote 1 0")
	for line, want := range map[string]api.Errno{
		"pantry cy 0": api.ErrArg, "pantry cy 8": api.ErrArg, "pantry cy 9999": api.ErrArg, "pantry cy 1": api.ErrArg, "pantry cy 7": api.ErrArg,
		"hand tom 4": api.ErrArg, "hand tom 9999": api.ErrArg, "hand tom 0 1 0": api.ErrArg, "hand tom 3 3": api.ErrArg, "hand tom 0 1 2 4": api.ErrArg,
		"vote 0": api.ErrArg, "vote 0 1 2": api.ErrArg, "vote 0 0": api.ErrArg, "vote 0 2": api.ErrArg, "vote 9999 0": api.ErrArg, "vote 1 1": api.ErrArg,
		"deal": api.ErrNone,
	} {
		refuses(t, b, line, want)
	}
	b = fresh(t, "give rice 1 3", "give rice 1 4")
	refuses(t, b, "deal", api.ErrNone)
	// Neither a lot that is gone nor one in a pantry is there to be dealt.
	do(t, b, "day 4", "pantry ada 1")
	same(t, do(t, b, "deal"), "deal 2:ada")
	refuses(t, b, "deal", api.ErrNone)
	for _, line := range []string{"vote 1", "vote 0 2", "vote 1 2 3 4 5", "vote 0 1 2 3 3", "vote 5 0 1 2 3"} {
		refuses(t, fresh(t), line, api.ErrArg)
	}
}

// The day passes; only lots that are in no pantry spoil, on the day after their date.
func TestDay(t *testing.T) {
	b := fresh(t, "pantry ada 1", "give rice 1 2", "deal", "give tea 1 3", "give tea 2 3", "give tea 3 4", "give oil 1 3")
	same(t, do(t, b, "day 0"), "day 0")
	same(t, do(t, b, "day 3"), "day 0")
	same(t, ask(t, b, "owns ada"), "owns 1")
	same(t, do(t, b, "day 4"), "day 3")
	same(t, ask(t, b, "lots"), "lots 4:tea:3:4")
	// What is gone is not counted again, and keeps its number.
	same(t, do(t, b, "day 4"), "day 0")
	same(t, do(t, b, "day 5"), "day 1")
	same(t, do(t, b, "give oil 2 5"), "give 6")
	same(t, ask(t, b, "lots"), "lots 6:oil:2:5")
	same(t, ask(t, b, "owns ada"), "owns 1")
	same(t, b.State(), "day 5\nlots 6:oil:2:5\nowns 1\nenvy\n\n\n")
}

// A deal divides the first 7 lots, by the names of the pantries; what a food is worth may be said again.
func TestDeal(t *testing.T) {
	b := fresh(t, "pantry bob 2", "pantry ada 1", "worth bob rice 1", "worth ada rice 9", "worth ada rice 2")
	for k := range 9 {
		do(t, b, fmt.Sprint("give rice 1 ", 10+k))
	}
	same(t, do(t, b, "deal"), "deal 1:ada 2:bob 3:ada 4:bob 5:ada 6:bob 7:ada")
	same(t, ask(t, b, "lots"), "lots 8:rice:1:17 9:rice:1:18")
	same(t, do(t, b, "deal"), "deal 8:ada 9:bob")
	same(t, ask(t, b, "owns ada"), "owns 1 3 5 7 8")
	same(t, ask(t, b, "envy"), "envy bob:ada")
	// What nobody has said to be worth something is worth nothing, so that nobody envies the first one.
	do(t, b, "give salt 5 20", "give salt 5 20")
	same(t, do(t, b, "deal"), "deal 10:ada 11:ada")
	// The values are those of units times worth: 4 units are worth more than one of twice the worth.
	b = fresh(t, "pantry ada 1", "pantry bob 2", "worth ada tea 4", "worth ada oil 2", "worth bob tea 1", "worth bob oil 1", "give tea 1 9", "give oil 4 9", "give tea 1 9")
	same(t, do(t, b, "deal"), "deal 1:ada 2:bob 3:ada")
}

// There are at most 20 lots in all, also if some are gone or in pantries.
func TestLotsInAll(t *testing.T) {
	b := fresh(t, "pantry ada 1")
	for k := range 20 {
		same(t, do(t, b, "give rice 1 1"), fmt.Sprint("give ", k+1))
	}
	refuses(t, b, "give rice 1 1", api.ErrFull)
	do(t, b, "deal", "day 2")
	refuses(t, b, "give rice 1 2", api.ErrFull)
}
