package wal

import (
	"fmt"
	"math"
	"testing"

	"platterhold/api"
)

// noCrashes are numbers of records that a Crash can't leave, of so many of which so many last.
func noCrashes(all, synced int) []int {
	return []int{
		-1, synced - 1, all + 1, -2, all + 2, -all - 1, -synced - 1, 61, 64, 256, 1 << 32, 1<<32 + all, 1<<32 + synced, -1 << 32,
		-1<<32 + all, 1 << 62, 1<<62 + all, -1 << 62, math.MinInt32, math.MaxInt32, math.MinInt, math.MinInt + 1,
		math.MinInt + all, math.MaxInt - all, math.MaxInt - 1, math.MaxInt,
	}
}

// wantNoCrashes asks that no Crash that can't be comes off.
func wantNoCrashes(t *testing.T, d *Disk) {
	t.Helper()
	all, synced := d.Log()
	for _, n := range noCrashes(all, synced) {
		wantStep(t, d, crash(n), api.ErrRange)
	}
}

// TestCrashNone (17.2, P1): fewer than last, and more than there are, of logs of which none, some or all records last.
func TestCrashNone(t *testing.T) {
	for _, steps := range []string{
		"", "3:1=5", "3:1=5 Sync", "3:1=5 3. Sync 4.", mixedUp, mixedUp + " Sync", mixedUp + " ^11", mixedUp + " ^11 Home",
		many(4, 60), many(4, 59) + " Sync 4.", many(4, 59) + " 4. Sync",
	} {
		wantNoCrashes(t, behind(t, steps))
	}
	d := behind(t, "1:1=1 2:2=2 3:3=3 Sync 4:4=4 5:5=5")
	for n := range 3 {
		wantStep(t, d, crash(n), api.ErrRange)
	}
	wantStep(t, d, crash(6), api.ErrRange)
	wantStep(t, d, crash(3), api.OK)
}

// TestCrashEach (17.2): each number that a Crash can leave of one log, with turns that have ended in what is left, and that
// have not, whose records are ahead of others, between them and behind them.
func TestCrashEach(t *testing.T) {
	const steps = "4:3=30 0:1=10 4:1=11 4. 1:3=31 19:0=9 1:7=1 0:1=12 1. 2:3=32 0. 5."
	for n, want := range []string{
		"0/0", "0/0", "0/0", "0/0",
		"1=11 3=30 4. 3/3", "1=11 3=30 4. 3/3", "1=11 3=30 4. 3/3", "1=11 3=30 4. 3/3", "1=11 3=30 4. 3/3",
		"1=11 3=31 7=1 1. 4. 6/6", "1=11 3=31 7=1 1. 4. 6/6",
		"1=12 3=31 7=1 0. 1. 4. 9/9",
		"1=12 3=31 7=1 0. 1. 4. 5. 10/10",
	} {
		d := behind(t, steps)
		wantStep(t, d, crash(n), api.OK)
		wantState(t, crash(n), d, want)
		wantNoCrashes(t, d)
	}
}

// TestCrashEnds (17.2): a crash between a turn's records and its end, at the end, and behind it.
func TestCrashEnds(t *testing.T) {
	wantPlays(t,
		play{"6:1=4 6:2=5 6. ^0", "0/0"},
		play{"6:1=4 6:2=5 6. ^1", "0/0"},
		play{"6:1=4 6:2=5 6. ^2", "0/0"},
		play{"6:1=4 6:2=5 6. ^3", "1=4 2=5 6. 3/3"},
		play{"6:1=4 6:2=5 6. 7:1=8 ^3", "1=4 2=5 6. 3/3"},
		play{"6:1=4 6:2=5 6. 7:1=8 ^4", "1=4 2=5 6. 3/3"},
		play{"6. ^0", "0/0"},
		play{"6. ^1", "6. 1/1"},
		play{"6. 7. 8. ^2", "6. 7. 2/2"},
		play{"^0", "0/0"},
		play{"Sync ^0 ^0", "0/0"},
	)
}

// TestCrashOrder (17.2): what is left keeps its order, by which its turns ended.
func TestCrashOrder(t *testing.T) {
	wantPlays(t,
		play{"9:0=1 1:0=5 2:0=6 1. 2. ^5", "0=6 1. 2. 4/4"},
		play{"9:0=1 1:0=5 2:0=6 2. 1. ^5", "0=5 1. 2. 4/4"},
		play{"9:0=1 1:0=5 2:0=6 2. 1. ^4", "0=6 2. 2/2"},
		play{"9:0=1 1:0=5 2:0=6 1. 2. ^4", "0=5 1. 2/2"},
		play{"1:0=5 9:0=1 1:0=7 9:0=2 1. 2:0=8 ^6", "0=7 1. 3/3"},
	)
}

// TestCrashGone (17.2): a turn that was gone may write and end anew, and nothing of what it wrote before is there; one that
// had ended in what is left may not.
func TestCrashGone(t *testing.T) {
	d := behind(t, "1:1=5 2:2=6 2. 1:3=7 1. 3:4=8")
	wantSteps(t, d, "^4")
	wantState(t, "a Crash", d, "2=6 2. 2/2")
	wantStep(t, d, write(2, 2, 9), api.ErrState)
	wantStep(t, d, end(2), api.ErrState)
	wantSteps(t, d, "1:1=0 3:5=9 1. 3.")
	wantState(t, "anew", d, "2=6 5=9 1. 2. 3. 6/2")
	wantSteps(t, d, "^5 3.")
	wantState(t, "gone, and ended anew", d, "2=6 1. 2. 3. 5/4")
}

// TestCrashSynced (17.2): behind a Sync just as many records as last can be left, and those of turns that have not ended
// are gone all the same.
func TestCrashSynced(t *testing.T) {
	wantPlays(t,
		play{"1:1=5 2:2=6 2. 1:3=7 Sync ^4", "2=6 2. 2/2"},
		play{"1:1=5 1:3=7 Sync ^2", "0/0"},
		play{"1:1=5 Sync 1. ^1", "0/0"},
		play{"1:1=5 Sync 1. ^2", "1=5 1. 2/2"},
		play{"1:1=5 Sync 1. Sync ^2", "1=5 1. 2/2"},
		play{"1:1=5 Sync 1:2=6 3. ^3 1.", "1. 3. 2/1"},
	)
	d := behind(t, many(4, 60)+" Sync")
	wantNoCrashes(t, d)
	wantSteps(t, d, "^60")
	wantState(t, "a Crash", d, "0/0")
}

// TestCrashTwice (17.2): behind a Crash all that is left lasts, so that the next one can leave no less.
func TestCrashTwice(t *testing.T) {
	d := behind(t, "1:1=5 2:2=6 2. 1:3=7")
	wantSteps(t, d, "^3")
	for n := range 2 {
		wantStep(t, d, crash(n), api.ErrRange)
	}
	wantStep(t, d, crash(3), api.ErrRange)
	wantSteps(t, d, "^2")
	wantState(t, "twice", d, "2=6 2. 2/2")
	wantSteps(t, d, "1:1=8 1. 0:7=9 ^4")
	wantState(t, "three times", d, "1=8 2=6 1. 2. 4/4")
	wantStep(t, d, crash(3), api.ErrRange)
	wantSteps(t, d, "^4")
	wantState(t, "four times", d, "1=8 2=6 1. 2. 4/4")
}

// TestCrashManyTurns (17.2): a log of all turns, of which each second one has ended, with each number that can be left.
func TestCrashManyTurns(t *testing.T) {
	steps := ""
	for turn := range 20 {
		steps += write(turn, turn%8, turn+1).String() + " "
	}
	for turn := 0; turn < 20; turn += 2 {
		steps += end(turn).String() + " "
	}
	for n := range 31 {
		ended := max(n-20, 0)
		d := behind(t, steps)
		wantStep(t, d, crash(n), api.OK)
		values := map[int]int{}
		turns := ""
		for turn := 0; turn < 2*ended; turn += 2 {
			values[turn%8] = turn + 1
			turns += fmt.Sprintf("%d. ", turn)
		}
		want := ""
		for block := range 8 {
			if values[block] != 0 {
				want += fmt.Sprintf("%d=%d ", block, values[block])
			}
		}
		wantState(t, crash(n), d, fmt.Sprintf("%s%s%d/%d", want, turns, 2*ended, 2*ended))
	}
}

// TestCrashFruitless (17.2, P1): behind an error the same can become of the disk.
func TestCrashFruitless(t *testing.T) {
	wantFruitless(t, mixedUp, api.ErrRange, crash(-1), crash(0), crash(4), crash(12), crash(math.MinInt), crash(math.MaxInt))
	wantFruitless(t, mixedUp+" ^11 "+many(8, 4), api.ErrRange, crash(0), crash(5), crash(11))
}
