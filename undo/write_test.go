package undo

import (
	"fmt"
	"testing"

	"platterhold/api"
)

// TestWriteEach (18.1): each turn, each block and each value that may be: the value is there at once, and the block is the
// turn's.
func TestWriteEach(t *testing.T) {
	for turn := range 20 {
		for block := range 8 {
			d := New()
			wantStep(t, d, write(turn, block, 1+turn*block), api.OK)
			wantState(t, "Write", d, fmt.Sprintf("%d:%d=%d", turn, block, 1+turn*block))
		}
	}
	d := New()
	for value := range 1001 {
		wantStep(t, d, write(0, 7, value), api.OK)
		wantState(t, "Write", d, fmt.Sprintf("0:7=%d", value))
		wantStep(t, d, end(0), api.OK)
	}
	wantPlays(t,
		play{"0:0=0", "0:0=0"},
		play{"19:7=1000", "19:7=1000"},
		play{"0:7=1000 19:0=0", "19:0=0 0:7=1000"},
		play{mixedUp, mixedUpState},
	)
}

// TestWriteWhose (18.1): a block that is nobody's, be it that nobody had it, or that whoever had it ended, was undone, or
// crashed; the turn's own; and all blocks at once, by one turn, and by eight.
func TestWriteWhose(t *testing.T) {
	wantPlays(t,
		play{"3:4=1", "3:4=1"},
		play{"3:4=1 3:4=2", "3:4=2"},
		play{"3:4=1 3:4=1", "3:4=1"},
		play{"3:4=1 3:4=0", "3:4=0"},
		play{"3:4=1 3. 5:4=2", "5:4=2"},
		play{"3:4=1 3< 5:4=2", "5:4=2"},
		play{"3:4=1 Crash 5:4=2", "5:4=2"},
		play{"3:4=1 3. 3:4=2", "3:4=2"},
		play{"3:4=1 3< 3:4=2", "3:4=2"},
		play{"3:4=1 Crash 3:4=2", "3:4=2"},
		play{"3:0=1 3:1=2 3:2=3 3:3=4 3:4=5 3:5=6 3:6=7 3:7=8", "3:0=1 3:1=2 3:2=3 3:3=4 3:4=5 3:5=6 3:6=7 3:7=8"},
		play{"0:0=1 1:1=2 2:2=3 3:3=4 4:4=5 5:5=6 6:6=7 19:7=8", "0:0=1 1:1=2 2:2=3 3:3=4 4:4=5 5:5=6 6:6=7 19:7=8"},
	)
}

// TestWriteNoTurn (18.1, P1, P3): what is no turn is ErrRange, also where the block and the value are none, where the block
// is another turn's, and where there is no room.
func TestWriteNoTurn(t *testing.T) {
	full := behind(t, many(0, 60))
	for _, d := range []*Disk{New(), behind(t, mixedUp), full} {
		for _, turn := range noTurns() {
			for block := range 8 {
				wantStep(t, d, write(turn, block, 500), api.ErrRange)
			}
			wantStep(t, d, write(turn, 0, 0), api.ErrRange)
			wantStep(t, d, write(turn, 7, 1000), api.ErrRange)
			wantStep(t, d, write(turn, -1, 5), api.ErrRange)
			wantStep(t, d, write(turn, 8, 1001), api.ErrRange)
			wantStep(t, d, write(turn, turn, turn), api.ErrRange)
		}
	}
}

// TestWriteNoBlock (18.1, P1): what is no block, with values that may be, and that may not, also where there is no room.
func TestWriteNoBlock(t *testing.T) {
	for _, d := range []*Disk{New(), behind(t, mixedUp), behind(t, many(0, 60))} {
		for _, block := range noBlocks() {
			for _, turn := range []int{0, 2, 19} {
				wantStep(t, d, write(turn, block, 0), api.ErrRange)
				wantStep(t, d, write(turn, block, 1000), api.ErrRange)
				wantStep(t, d, write(turn, block, -1), api.ErrRange)
				wantStep(t, d, write(turn, block, block), api.ErrRange)
			}
		}
	}
}

// TestWriteNoValue (18.1, P1, P3): what can't be in a block, be it nobody's, the turn's own, or another turn's, also where
// there is no room.
func TestWriteNoValue(t *testing.T) {
	for _, d := range []*Disk{New(), behind(t, mixedUp), behind(t, many(0, 60))} {
		for _, value := range noValues() {
			for _, turn := range []int{0, 2, 3, 19} {
				for block := range 8 {
					wantStep(t, d, write(turn, block, value), api.ErrRange)
				}
			}
		}
	}
}

// TestWriteClash (18.1): each block that another turn has, by each turn, with any value; also by one that has ended, and by
// one that has other blocks.
func TestWriteClash(t *testing.T) {
	for block := range 8 {
		for turn := range 20 {
			d := New()
			wantStep(t, d, write(turn, block, 9), api.OK)
			for other := range 20 {
				want := api.ErrClash
				if other == turn {
					want = api.OK
				}
				for _, value := range []int{0, 9, 1000} {
					wantStep(t, d, write(other, block, value), want)
				}
			}
		}
	}
	d := behind(t, mixedUp)
	for block, turn := range map[int]int{0: 19, 1: 0, 2: 0, 3: 4, 7: 2} {
		for other := range 20 {
			if other != turn {
				wantStep(t, d, write(other, block, 13), api.ErrClash)
			}
		}
	}
	wantState(t, mixedUp, d, mixedUpState)
}

// TestWriteFull (18.1, P3): just as many notes as may be, and one more, which is ErrFull where nothing else is wrong, also
// of a block that the turn has.
func TestWriteFull(t *testing.T) {
	for _, text := range []string{
		many(7, 60, 3), many(7, 59, 3) + " 0:5=1", many(7, 30, 3) + " " + many(5, 30, 1, 2), "6:6=9 6. " + many(7, 60, 3),
		mixedUp + " " + many(7, 51, 6),
	} {
		d := behind(t, text)
		was := stateOf(d)
		for _, block := range []int{3, 4, 6} {
			turn := d.Busy(block)
			if turn == -1 {
				turn = 9
			}
			for _, value := range []int{0, 1, 13, 1000} {
				wantStep(t, d, write(turn, block, value), api.ErrFull)
			}
			wantStep(t, d, write(turn, block, -1), api.ErrRange)
			wantStep(t, d, write(turn, block, 1001), api.ErrRange)
			wantStep(t, d, write(turn, -1, 1), api.ErrRange)
			wantStep(t, d, write(turn, 8, 1), api.ErrRange)
			wantStep(t, d, write(20, block, 1), api.ErrRange)
			wantStep(t, d, write(-1, block, 1), api.ErrRange)
		}
		wantState(t, "full", d, was)
	}
}

// TestWriteClashFull (18.1, P3): where there is no room, another turn's block is ErrClash, and a number that can't be is
// ErrRange ahead of it.
func TestWriteClashFull(t *testing.T) {
	d := behind(t, many(7, 59, 3)+" 5:4=1")
	for _, turn := range []int{0, 4, 6, 19} {
		wantStep(t, d, write(turn, 3, 1), api.ErrClash)
		wantStep(t, d, write(turn, 4, 1), api.ErrClash)
		wantStep(t, d, write(turn, 5, 1), api.ErrFull)
		wantStep(t, d, write(turn, 3, -1), api.ErrRange)
		wantStep(t, d, write(turn, 4, 1001), api.ErrRange)
	}
	wantStep(t, d, write(7, 4, 1), api.ErrClash)
	wantStep(t, d, write(5, 3, 1), api.ErrClash)
	wantStep(t, d, write(7, 3, 1), api.ErrFull)
	wantStep(t, d, write(5, 4, 1), api.ErrFull)
	wantStep(t, d, write(20, 3, 1), api.ErrRange)
	wantStep(t, d, write(-1, 4, 1), api.ErrRange)
}

// TestWriteEachNote (18.1): each Write is a note, up to as many as may be, by one turn and by many, into one block and into
// all.
func TestWriteEachNote(t *testing.T) {
	for _, turns := range []int{1, 2, 4, 8} {
		d := New()
		for i := range 60 {
			wantStep(t, d, write(i%turns, i%8, i), api.OK)
		}
		wantStep(t, d, write(0, 0, 0), api.ErrFull)
	}
	for notes := range 61 {
		wantRoom(t, many(3, notes, 5), 60-notes)
		wantRoom(t, many(3, notes), 60-notes)
	}
	wantRoom(t, mixedUp, 51)
}

// TestWriteFruitless (18.1, P1): behind an error the same can become of the disk.
func TestWriteFruitless(t *testing.T) {
	wantFruitless(t, mixedUp, api.ErrRange,
		write(-1, 1, 5), write(20, 1, 5), write(0, -1, 5), write(0, 8, 5), write(0, 1, -1), write(2, 7, 1001), write(3, 4, 1001))
	wantFruitless(t, mixedUp, api.ErrClash, write(1, 1, 5), write(2, 1, 5), write(0, 7, 5), write(3, 3, 5), write(19, 3, 5))
	wantFruitless(t, mixedUp+" "+many(6, 51, 6), api.ErrFull, write(0, 1, 5), write(6, 6, 5), write(5, 5, 5), write(5, 4, 5))
}
