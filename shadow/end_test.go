package shadow

import (
	"strings"
	"testing"
)

// TestEnd (19.1): nothing written, one page, several ones; a page counts once, however often it was written; behind an End
// there is none.
func TestEnd(t *testing.T) {
	wantPlays(t,
		play{"End", "0", ""},
		play{"End End", "0 0", ""},
		play{"3=5 End", "0 1", "3@0=5"},
		play{"3=5 End End End", "0 1 0 0", "3@0=5"},
		play{"3=5 3=6 3=7 End", "0 0 0 1", "3@0=7"},
		play{"3=5 4=6 End", "0 1 2", "3@0=5 4@1=6"},
		play{"3=5 4=6 3=7 4=8 3=9 End", "0 1 0 1 0 2", "3@0=9 4@1=8"},
		play{"3=5 End 3=6 End", "0 1 1 1", "3@1=6"},
		play{"3=5 End 4=6 End", "0 1 1 1", "3@0=5 4@1=6"},
		play{"3=5 4=6 End 4=7 End 5=8 End", "0 1 2 2 1 1 1", "3@0=5 4@2=7 5@1=8"},
		play{mixedUp + " End", "0 1 2 3 4 4 5 6 3 1 2 7 - 1 2 7 8 8 4", "0@0=10 1@2=41 3@5=13 4@7=14 5@8=0 6@6=26 7@1=7"},
	)
}

// TestEndMany (19.1): from no page to all of them, first ones and last ones, behind an End and on a new disk.
func TestEndMany(t *testing.T) {
	for pages := range 9 {
		for _, ahead := range []string{"", allOf(1) + " End", mixedUp + " End", mixedUp + " Crash"} {
			first, last := behind(t, ahead), behind(t, ahead)
			for i := range pages {
				for _, value := range []int{40, 0} {
					first.Write(i, value)
					last.Write(7-i, value)
				}
			}
			for _, want := range []int{pages, 0} {
				wantStep(t, first, stepOf("End"), want)
				wantStep(t, last, stepOf("End"), want)
			}
		}
	}
}

// TestEndEach (19.1): each page counts, alone and with another one.
func TestEndEach(t *testing.T) {
	for page := range 8 {
		for other := range 8 {
			want := 2
			if other == page {
				want = 1
			}
			for _, ahead := range []string{"", allOf(1) + " End"} {
				d := behind(t, ahead)
				d.Write(page, 5)
				d.Write(other, 6)
				wantStep(t, d, stepOf("End"), want)
			}
		}
	}
}

// TestEndCrash (19.1): behind a Crash there is none, but for what is written then.
func TestEndCrash(t *testing.T) {
	wantPlays(t,
		play{"Crash End", "- 0", ""},
		play{"3=5 Crash End", "0 - 0", ""},
		play{"3=5 End 3=6 4=7 Crash End", "0 1 1 2 - 0", "3@0=5"},
		play{"3=5 End 3=6 4=7 Crash 4=8 End", "0 1 1 2 - 1 1", "3@0=5 4@1=8"},
		play{"3=5 End Crash End", "0 1 - 0", "3@0=5"},
		play{allOf(1) + " Crash End", "0 1 2 3 4 5 6 7 - 0", ""},
	)
}

// TestEndSameValue (19.1): pages whose value is the same but whose slot is another one count.
func TestEndSameValue(t *testing.T) {
	wantPlays(t,
		play{"3=0 End", "0 1", "3@0=0"},
		play{"3=0 4=0 End", "0 1 2", "3@0=0 4@1=0"},
		play{"3=5 End 3=5 End", "0 1 1 1", "3@1=5"},
		play{"3=5 End 3=6 3=5 End", "0 1 1 1 1", "3@1=5"},
		play{"3=5 4=6 End 3=5 4=7 End", "0 1 2 2 3 2", "3@2=5 4@3=7"},
		play{"3=5 4=5 End 4=5 3=5 End", "0 1 2 2 3 2", "3@3=5 4@2=5"},
		play{allOf(1) + " End " + allOf(1) + " End", "0 1 2 3 4 5 6 7 8 8 9 10 11 12 13 14 15 8",
			"0@8=1 1@9=2 2@10=3 3@11=4 4@12=5 5@13=6 6@14=7 7@15=8"},
	)
}

// TestEndLasts (19.1): what was there at the End stays behind Crashes, whatever is written between, also where the slots that
// became free are written.
func TestEndLasts(t *testing.T) {
	wantPlays(t,
		play{"3=5 End Crash", "0 1 -", "3@0=5"},
		play{"3=5 3=6 End Crash Crash", "0 0 1 - -", "3@0=6"},
		play{"3=5 End 3=6 End 3=7 Crash", "0 1 1 1 0 -", "3@1=6"},
		play{"3=5 End 3=6 End 4=7 4=8 Crash", "0 1 1 1 0 0 -", "3@1=6"},
	)
	for _, ahead := range []string{"", "3=5", allOf(1), allOf(1) + " End " + allOf(11), mixedUp} {
		d := behind(t, ahead+" End")
		want := stateOf(d)
		for _, more := range []string{"3=1", "3=2 3=3", allOf(500), allOf(600) + " " + allOf(700), strings.Repeat("2=9 Crash ", 9)} {
			for _, s := range stepsOf(more + " Crash") {
				s.on(d)
			}
			wantState(t, more, d, want)
		}
	}
}
