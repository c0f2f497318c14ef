package undo

import (
	"fmt"
	"testing"

	"platterhold/api"
)

// TestEnd (18.1): of a turn that has no blocks, one block, or several, once and twice: what it wrote stays, and the blocks
// are nobody's; others' are as they were.
func TestEnd(t *testing.T) {
	wantPlays(t,
		play{"3.", ""},
		play{"3. 3.", ""},
		play{"3:4=1 3.", "4=1"},
		play{"3:4=1 3. 3.", "4=1"},
		play{"3:4=0 3.", ""},
		play{"3:4=1 3:4=2 3:5=6 3.", "4=2 5=6"},
		play{"3:4=1 5.", "3:4=1"},
		play{"3:4=1 5:6=7 3.", "4=1 5:6=7"},
		play{"3:4=1 5:6=7 5.", "3:4=1 6=7"},
		play{"3:4=1 5:6=7 5. 3.", "4=1 6=7"},
		play{mixedUp + " 0.", "19:0=0 1=13 2=12 4:3=32 5=50 2:7=7"},
		play{mixedUp + " 1.", mixedUpState},
		play{mixedUp + " 2.", "19:0=0 0:1=13 0:2=12 4:3=32 5=50 7=7"},
		play{mixedUp + " 4.", "19:0=0 0:1=13 0:2=12 3=32 5=50 2:7=7"},
		play{mixedUp + " 19.", "0:1=13 0:2=12 4:3=32 5=50 2:7=7"},
		play{mixedUp + " 0. 1. 2. 3. 4. 19.", "1=13 2=12 3=32 5=50 7=7"},
	)
}

// TestEndEach (18.1): each turn, with blocks and without.
func TestEndEach(t *testing.T) {
	for turn := range 20 {
		d := behind(t, write(turn, turn%8, 5).String())
		for other := range 20 {
			if other != turn {
				wantStep(t, d, end(other), api.OK)
				wantState(t, other, d, fmt.Sprintf("%d:%d=5", turn, turn%8))
			}
		}
		for range 2 {
			wantStep(t, d, end(turn), api.OK)
			wantState(t, turn, d, fmt.Sprintf("%d=5", turn%8))
		}
	}
}

// TestEndNoTurn (18.1, P1): what is no turn is ErrRange, and nothing is changed.
func TestEndNoTurn(t *testing.T) {
	for _, d := range []*Disk{New(), behind(t, mixedUp), behind(t, many(0, 60))} {
		for _, turn := range noTurns() {
			wantStep(t, d, end(turn), api.ErrRange)
		}
	}
	wantFruitless(t, mixedUp, api.ErrRange, end(-1), end(20), end(256), end(1<<32))
}

// TestEndLasts (18.1): what a turn wrote stays behind an Undo of it, and behind a Crash, also if others had written there
// ahead of it.
func TestEndLasts(t *testing.T) {
	wantPlays(t,
		play{"3:4=1 3. 3<", "4=1"},
		play{"3:4=1 3. Crash", "4=1"},
		play{"3:4=1 3:5=2 3:4=3 3. 3< Crash", "4=3 5=2"},
		play{"3:4=1 3. 3:4=2 3<", "4=1"},
		play{"3:4=1 3. 3:4=2 Crash", "4=1"},
		play{"3:4=1 3. 3:5=2 3<", "4=1"},
		play{"3:4=1 3. 5:4=2 5. 3<", "4=2"},
		play{"3:4=1 3. 5:4=2 3. 5<", "4=1"},
		play{mixedUp + " 0. 0< Crash", "1=13 2=12 3=30 5=50"},
		play{mixedUp + " 4. 2. 4< 2< Crash", "3=32 5=50 7=7"},
	)
}

// TestEndOthers (18.1): the blocks may then be another turn's, of which each notes what is there now.
func TestEndOthers(t *testing.T) {
	d := behind(t, "3:4=1 3:5=2")
	wantStep(t, d, write(6, 4, 7), api.ErrClash)
	wantSteps(t, d, "3. 6:4=7")
	wantState(t, "another turn's", d, "6:4=7 5=2")
	wantStep(t, d, write(3, 4, 8), api.ErrClash)
	wantSteps(t, d, "3. 3:5=9 6<")
	wantState(t, "put back", d, "4=1 3:5=9")
	wantSteps(t, d, "3<")
	wantState(t, "both", d, "4=1 5=2")
}

// TestEndRoom (18.1): there is room again for as many notes as the turn had, whose ever were noted between them.
func TestEndRoom(t *testing.T) {
	for turn, room := range map[int]int{0: 55, 1: 51, 2: 53, 3: 51, 4: 53, 19: 52} {
		wantRoom(t, fmt.Sprintf("%s %d.", mixedUp, turn), room)
		wantRoom(t, fmt.Sprintf("%s %d. %d.", mixedUp, turn, turn), room)
	}
	wantRoom(t, mixedUp+" 0. 2. 4. 19.", 60)
	for notes := range 61 {
		wantRoom(t, fmt.Sprintf("%s %s 5.", many(5, notes, 1, 2, 3), many(6, 60-notes, 4, 5)), notes)
	}
	d := behind(t, many(5, 59, 1)+" 6:2=8")
	wantStep(t, d, write(6, 2, 9), api.ErrFull)
	wantSteps(t, d, "6. 6:2=9")
	wantStep(t, d, write(6, 2, 9), api.ErrFull)
	wantSteps(t, d, "5. "+many(7, 59, 1))
	wantStep(t, d, write(6, 2, 9), api.ErrFull)
	wantSteps(t, d, "7<")
	wantState(t, "full again", d, "1=159 6:2=9")
}
