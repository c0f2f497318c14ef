package wal

import (
	"fmt"
	"testing"

	"platterhold/api"
)

// TestWriteEach (17.1): each turn, each block and each value that may be: a record, and the value when the turn ends.
func TestWriteEach(t *testing.T) {
	for turn := range 20 {
		for block := range 8 {
			d := New()
			wantStep(t, d, write(turn, block, 1+turn*block), api.OK)
			wantState(t, "Write", d, "1/0")
			wantStep(t, d, end(turn), api.OK)
			wantState(t, "End", d, fmt.Sprintf("%d=%d %d. 2/0", block, 1+turn*block, turn))
		}
	}
	for value := 1; value <= 1000; value++ {
		d := New()
		wantStep(t, d, write(0, 7, value), api.OK)
		wantStep(t, d, end(0), api.OK)
		wantState(t, "End", d, fmt.Sprintf("7=%d 0. 2/0", value))
	}
	wantPlays(t,
		play{"0:0=0", "1/0"},
		play{"0:0=0 0.", "0. 2/0"},
		play{"19:7=1000", "1/0"},
		play{"19:7=1000 19.", "7=1000 19. 2/0"},
		play{"1:4=9 1. 2:4=0 2.", "1. 2. 4/0"},
	)
}

// TestWriteNoTurn (17.1, P1, P3): what is no turn is ErrRange, also where the block and the value are none, and where there
// is no room.
func TestWriteNoTurn(t *testing.T) {
	full := behind(t, many(0, 60))
	for _, d := range []*Disk{New(), behind(t, mixedUp), full} {
		for _, turn := range noTurns() {
			wantStep(t, d, write(turn, 0, 0), api.ErrRange)
			wantStep(t, d, write(turn, 7, 1000), api.ErrRange)
			wantStep(t, d, write(turn, -1, 5), api.ErrRange)
			wantStep(t, d, write(turn, 8, 1001), api.ErrRange)
			wantStep(t, d, write(turn, turn, turn), api.ErrRange)
		}
	}
	wantState(t, "full", full, "60/0")
}

// TestWriteNoBlock (17.1, P1): what is no block, with values that may be, and that may not.
func TestWriteNoBlock(t *testing.T) {
	for _, d := range []*Disk{New(), behind(t, mixedUp), behind(t, many(0, 60))} {
		for _, block := range noBlocks() {
			for _, turn := range []int{0, 2, 19} {
				wantStep(t, d, write(turn, block, 0), api.ErrRange)
				wantStep(t, d, write(turn, block, 1000), api.ErrRange)
				wantStep(t, d, write(turn, block, -1), api.ErrRange)
				wantStep(t, d, write(turn, block, block), api.ErrRange)
			}
		}
	}
}

// TestWriteNoValue (17.1, P1): what can't be in a block.
func TestWriteNoValue(t *testing.T) {
	for _, d := range []*Disk{New(), behind(t, mixedUp), behind(t, many(0, 60))} {
		for _, value := range noValues() {
			for _, turn := range []int{0, 2, 19} {
				wantStep(t, d, write(turn, 0, value), api.ErrRange)
				wantStep(t, d, write(turn, 7, value), api.ErrRange)
			}
		}
	}
}

// TestWriteEnded (17.1, P3): a turn that has ended is ErrState, ahead of a block or a value that is none, and ahead of a
// log that is full.
func TestWriteEnded(t *testing.T) {
	full := behind(t, "4. "+many(1, 58)+" 1.")
	for _, d := range []*Disk{behind(t, mixedUp), behind(t, "1. 4."), full} {
		for _, turn := range []int{1, 4} {
			wantStep(t, d, write(turn, 3, 5), api.ErrState)
			wantStep(t, d, write(turn, 0, 0), api.ErrState)
			for _, block := range noBlocks() {
				wantStep(t, d, write(turn, block, 5), api.ErrState)
				wantStep(t, d, write(turn, block, -1), api.ErrState)
			}
			for _, value := range noValues() {
				wantStep(t, d, write(turn, 7, value), api.ErrState)
			}
		}
	}
	wantStep(t, full, write(0, 3, 5), api.ErrFull)
}

// TestWriteFull (17.1, P3): just as many records as may be, and one more, which is ErrFull where nothing else is wrong.
func TestWriteFull(t *testing.T) {
	for _, text := range []string{
		many(0, 60), many(0, 59) + " 5.", "5. 6. 8. " + many(7, 57), many(19, 40) + " Sync " + many(3, 20), many(5, 59) + " 5. Sync",
	} {
		d := behind(t, text)
		was := stateOf(d)
		for _, turn := range []int{0, 2, 7, 19} {
			wantStep(t, d, write(turn, 0, 0), api.ErrFull)
			wantStep(t, d, write(turn, 7, 1000), api.ErrFull)
			wantStep(t, d, write(turn, 8, 1000), api.ErrRange)
			wantStep(t, d, write(turn, 7, 1001), api.ErrRange)
		}
		wantStep(t, d, write(20, 0, 0), api.ErrRange)
		wantState(t, "full", d, was)
	}
}

// TestWriteEachRecord (17.1): there is one record more behind each Write, up to as many as may be, by one turn and by many.
func TestWriteEachRecord(t *testing.T) {
	for _, turns := range []int{1, 2, 20} {
		d := New()
		for i := range 60 {
			wantState(t, i, d, fmt.Sprintf("%d/0", i))
			wantStep(t, d, write(i%turns, i%8, i), api.OK)
		}
		wantState(t, "60", d, "60/0")
		wantStep(t, d, write(0, 0, 0), api.ErrFull)
	}
}

// TestWriteFullAgain (17.1, 17.2): behind a Crash, or a Home, there is room again.
func TestWriteFullAgain(t *testing.T) {
	d := behind(t, many(1, 30)+" "+many(2, 30))
	wantStep(t, d, write(0, 0, 0), api.ErrFull)
	wantSteps(t, d, "^60 "+many(2, 50)+" 2.")
	wantState(t, "a Crash", d, "0=149 1=150 2=143 3=144 4=145 5=146 6=147 7=148 2. 51/0")
	wantSteps(t, d, many(0, 9))
	wantStep(t, d, write(0, 7, 0), api.ErrFull)
	wantStep(t, d, stepOf("Home"), api.ErrState)
	wantSteps(t, d, "^59 "+many(0, 8)+" 0.")
	wantStep(t, d, write(1, 7, 0), api.ErrFull)
	wantState(t, "full", d, "0=101 1=102 2=103 3=104 4=105 5=106 6=107 7=108 0. 2. 60/51")
	wantSteps(t, d, "Home "+many(2, 60))
	wantStep(t, d, write(2, 7, 0), api.ErrFull)
	wantState(t, "again", d, "0=101 1=102 2=103 3=104 4=105 5=106 6=107 7=108 60/0")
}

// TestWriteFruitless (17.1, P1): behind an error the same can become of the disk.
func TestWriteFruitless(t *testing.T) {
	wantFruitless(t, mixedUp, api.ErrRange, write(-1, 0, 5), write(20, 0, 5), write(0, -1, 5), write(0, 8, 5), write(0, 1, -1), write(2, 3, 1001))
	wantFruitless(t, mixedUp, api.ErrState, write(1, 3, 5), write(4, 1, 5), write(4, -1, 5), write(1, 1, 1001))
	wantFruitless(t, "3. "+mixedUp+" "+many(6, 48), api.ErrFull, write(0, 1, 5), write(5, 5, 5))
}
