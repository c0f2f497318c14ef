package undo

import (
	"fmt"
	"testing"

	"platterhold/api"
)

// TestUndo (18.1): of a turn that has no notes, one, several of a block, and several of several: all is as it was ahead of
// it, and the blocks are nobody's.
func TestUndo(t *testing.T) {
	wantPlays(t,
		play{"3<", ""},
		play{"3:4=1 3<", ""},
		play{"3:4=1 3< 3<", ""},
		play{"3:4=0 3<", ""},
		play{"3:4=1 3:4=2 3<", ""},
		play{"3:4=1 3:4=2 3:4=1 3:4=3 3<", ""},
		play{"5:4=9 5. 3:4=1 3<", "4=9"},
		play{"5:4=9 5. 3:4=1 3:4=2 3<", "4=9"},
		play{"5:4=9 5. 3:4=1 3:4=2 3:4=3 3:4=4 3<", "4=9"},
		play{"5:4=9 5. 3:4=9 3:4=9 3<", "4=9"},
		play{"5:4=9 5. 3:4=0 3<", "4=9"},
		play{"5:4=1 5:5=2 5:6=3 5. 3:4=7 3:5=8 3:6=9 3<", "4=1 5=2 6=3"},
		play{"5:4=1 5:5=2 5:6=3 5. 3:6=7 3:4=8 3:6=9 3:5=6 3:4=5 3<", "4=1 5=2 6=3"},
		play{many(5, 8) + " 5. " + many(3, 60) + " 3<", "0=101 1=102 2=103 3=104 4=105 5=106 6=107 7=108"},
		play{many(5, 1, 2) + " 5. " + many(3, 60, 2) + " 3<", "2=101"},
	)
}

// TestUndoMixed (18.1): notes of several turns that are mixed: blocks of other turns are as they were, and whose they are.
func TestUndoMixed(t *testing.T) {
	wantPlays(t,
		play{"3:4=1 5:6=7 3<", "5:6=7"},
		play{"3:4=1 5:6=7 5<", "3:4=1"},
		play{"3:4=1 5:6=7 3:4=2 5:6=8 3<", "5:6=8"},
		play{"3:4=1 5:6=7 3:4=2 5:6=8 5<", "3:4=2"},
		play{"3:4=1 5:6=7 3:4=2 5:6=8 5< 3<", ""},
		play{mixedUp + " 0<", "19:0=0 4:3=32 5=50 2:7=7"},
		play{mixedUp + " 1<", mixedUpState},
		play{mixedUp + " 2<", "19:0=0 0:1=13 0:2=12 4:3=32 5=50"},
		play{mixedUp + " 3<", mixedUpState},
		play{mixedUp + " 4<", "19:0=0 0:1=13 0:2=12 3=30 5=50 2:7=7"},
		play{mixedUp + " 19<", "0:1=13 0:2=12 4:3=32 5=50 2:7=7"},
		play{mixedUp + " 0< 2< 4< 19<", "3=30 5=50"},
		play{mixedUp + " 19< 4< 2< 0<", "3=30 5=50"},
		play{mixedUp + " 0. 2< 4. 19<", "1=13 2=12 3=32 5=50"},
	)
}

// TestUndoEach (18.1): each turn, with notes and without.
func TestUndoEach(t *testing.T) {
	for turn := range 20 {
		d := behind(t, write(turn, turn%8, 5).String())
		for other := range 20 {
			if other != turn {
				wantStep(t, d, back(other), api.OK)
				wantState(t, other, d, fmt.Sprintf("%d:%d=5", turn, turn%8))
			}
		}
		for range 2 {
			wantStep(t, d, back(turn), api.OK)
			wantState(t, turn, d, "")
		}
	}
}

// TestUndoNoTurn (18.1, P1): what is no turn is ErrRange, and nothing is changed.
func TestUndoNoTurn(t *testing.T) {
	for _, d := range []*Disk{New(), behind(t, mixedUp), behind(t, many(0, 60))} {
		for _, turn := range noTurns() {
			wantStep(t, d, back(turn), api.ErrRange)
		}
	}
	wantFruitless(t, mixedUp, api.ErrRange, back(-1), back(20), back(256), back(1<<32))
}

// TestUndoAnew (18.1): a turn that has ended, or was undone, and writes anew: only what it wrote since is put back.
func TestUndoAnew(t *testing.T) {
	wantPlays(t,
		play{"3:4=1 3. 3:4=2 3:4=3 3<", "4=1"},
		play{"3:4=1 3:5=6 3. 3:4=2 3<", "4=1 5=6"},
		play{"3:4=1 3. 3:4=2 3. 3:4=3 3<", "4=2"},
		play{"3:4=1 3. 3:4=2 3< 3:4=3 3<", "4=1"},
		play{"3:4=1 3< 3:4=2", "3:4=2"},
		play{"3:4=1 3< 3:5=2 3.", "5=2"},
		play{"3:4=1 3< 3:4=2 3. 3<", "4=2"},
		play{mixedUp + " 4< 4:3=5 4<", "19:0=0 0:1=13 0:2=12 3=30 5=50 2:7=7"},
	)
}

// TestUndoOthers (18.1): others may then write the turn's blocks, and the turn may write again.
func TestUndoOthers(t *testing.T) {
	d := behind(t, "5:5=9 5. 3:4=1 3:5=2")
	wantStep(t, d, write(6, 4, 7), api.ErrClash)
	wantStep(t, d, write(6, 5, 7), api.ErrClash)
	wantSteps(t, d, "3< 6:4=7")
	wantState(t, "another turn's", d, "6:4=7 5=9")
	wantStep(t, d, write(3, 4, 8), api.ErrClash)
	wantSteps(t, d, "3:5=8 3<")
	wantState(t, "again", d, "6:4=7 5=9")
	wantSteps(t, d, "6<")
	wantState(t, "both", d, "5=9")
}

// TestUndoRoom (18.1): there is room again for as many notes as were put back.
func TestUndoRoom(t *testing.T) {
	for turn, room := range map[int]int{0: 55, 1: 51, 2: 53, 3: 51, 4: 53, 19: 52} {
		wantRoom(t, fmt.Sprintf("%s %d<", mixedUp, turn), room)
		wantRoom(t, fmt.Sprintf("%s %d< %d<", mixedUp, turn, turn), room)
	}
	wantRoom(t, mixedUp+" 0< 2< 4< 19<", 60)
	for notes := range 61 {
		wantRoom(t, fmt.Sprintf("%s %s 5<", many(5, notes, 1, 2, 3), many(6, 60-notes, 4, 5)), notes)
	}
	d := behind(t, many(5, 59, 1)+" 6:2=8")
	wantStep(t, d, write(6, 2, 9), api.ErrFull)
	wantSteps(t, d, "6< 6:2=9")
	wantStep(t, d, write(6, 2, 9), api.ErrFull)
	wantSteps(t, d, "5< "+many(7, 59, 1))
	wantStep(t, d, write(6, 2, 9), api.ErrFull)
	wantState(t, "full again", d, "7:1=159 6:2=9")
}
