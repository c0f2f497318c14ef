package wal

import (
	"testing"

	"platterhold/api"
)

// TestHome (17.2): of an empty log, and of one whose turns all have ended: Values is as it was, the log is empty, and no
// turn has ended.
func TestHome(t *testing.T) {
	wantPlays(t,
		play{"Home", "0/0"},
		play{"Home Home", "0/0"},
		play{"Sync Home", "0/0"},
		play{"4. Home", "0/0"},
		play{"4. Sync Home", "0/0"},
		play{"1:0=5 2:0=6 2:7=8 2. 1. Home", "0=5 7=8 0/0"},
		play{"1:0=5 2:0=6 2:7=8 2. 1. Sync Home", "0=5 7=8 0/0"},
		play{"1:0=5 2:0=6 2:7=8 1. 2. Home Home", "0=6 7=8 0/0"},
		play{"1:0=5 1. Home 2:0=0 2. Home", "0/0"},
		play{"1:0=5 1. Home 2:1=6 2. Home 1:2=7 1. Home", "0=5 1=6 2=7 0/0"},
		play{"9:3=3 1:0=5 1. 9:4=4 ^4 Home", "0=5 0/0"},
	)
}

// TestHomeOpen (17.2): a record of a turn that has not ended, alone, ahead of others' ends, between them and behind them,
// also one that lasts; when the turn has ended, or is gone, Home comes off.
func TestHomeOpen(t *testing.T) {
	for _, steps := range []string{
		"3:1=5", "3:1=5 Sync", "3:1=5 4:1=6 4.", "4:1=6 3:1=5 4.", "4:1=6 4. 3:1=5", "3:1=5 4. 5. 6.", "4. 5. 3:1=5 6.",
		"3:1=5 4:1=6 Sync 4. 3:2=7", "4:1=6 4. Home 3:1=5", many(3, 59), many(3, 57) + " 5. 6.",
	} {
		d := behind(t, steps)
		wantStep(t, d, stepOf("Home"), api.ErrState)
		wantStep(t, d, stepOf("Home"), api.ErrState)
		wantSteps(t, d, "3. Home")

		gone := behind(t, steps)
		all, _ := gone.Log()
		wantStep(t, gone, crash(all), api.OK)
		wantSteps(t, gone, "Home")
	}
}

// TestHomeEachTurn (17.2): each turn that has not ended, with another one that has.
func TestHomeEachTurn(t *testing.T) {
	for turn := range 20 {
		d := New()
		wantStep(t, d, write((turn+1)%20, 1, 5), api.OK)
		wantStep(t, d, write(turn, 1, 6), api.OK)
		wantStep(t, d, end((turn+1)%20), api.OK)
		wantStep(t, d, stepOf("Home"), api.ErrState)
		wantStep(t, d, end(turn), api.OK)
		wantSteps(t, d, "Home")
		wantState(t, turn, d, "1=6 0/0")
	}
}

// TestHomeAgain (17.2): behind Home each turn may write and end again.
func TestHomeAgain(t *testing.T) {
	d := New()
	for range 3 {
		for turn := range 20 {
			wantStep(t, d, write(turn, turn%8, turn), api.OK)
			wantStep(t, d, end(turn), api.OK)
			wantStep(t, d, end(turn), api.ErrState)
		}
		wantSteps(t, d, "Home")
		wantState(t, "Home", d, "0=16 1=17 2=18 3=19 4=12 5=13 6=14 7=15 0/0")
	}
}

// TestHomeCrash (17.2): a crash behind Home loses nothing of what was in the log ahead of it, whether it lasted or not.
func TestHomeCrash(t *testing.T) {
	wantPlays(t,
		play{"1:0=5 1. Home ^0", "0=5 0/0"},
		play{"1:0=5 1. Sync Home ^0", "0=5 0/0"},
		play{"1:0=5 1. Home 1:0=6 1. ^0", "0=5 0/0"},
		play{"1:0=5 1. Home 1:0=6 1. ^1", "0=5 0/0"},
		play{"1:0=5 1. Home 1:0=6 1. ^2", "0=6 1. 2/2"},
		play{"1:0=5 1. Sync Home 1:3=6 2:4=7 2. Sync ^3", "0=5 4=7 2. 2/2"},
	)
	d := behind(t, "1:0=5 1. Sync Home")
	wantStep(t, d, crash(1), api.ErrRange)
	wantStep(t, d, crash(2), api.ErrRange)
	wantStep(t, d, crash(-1), api.ErrRange)
	wantSteps(t, d, "7:7=7")
	wantSteps(t, d, "^0")
	wantState(t, "nothing lasted", d, "0=5 0/0")
}

// TestHomeFruitless (17.2, P1): behind an error the same can become of the disk.
func TestHomeFruitless(t *testing.T) {
	wantFruitless(t, mixedUp, api.ErrState, stepOf("Home"))
	wantFruitless(t, "1:0=5 1. Home 2:1=6 2. Sync 3:2=7 3:0=8 4.", api.ErrState, stepOf("Home"))
}

// TestLog (17.1, 17.2): how many records there are, and how many last, behind each call.
func TestLog(t *testing.T) {
	d := New()
	for _, one := range []struct {
		step        string
		all, synced int
	}{
		{"0:0=1", 1, 0}, {"1:0=2", 2, 0}, {"1.", 3, 0}, {"Sync", 3, 3}, {"Sync", 3, 3}, {"2.", 4, 3}, {"0:3=4", 5, 3}, {"^4", 3, 3},
		{"3:4=5", 4, 3}, {"Sync", 4, 4}, {"3:5=6", 5, 4}, {"^4", 3, 3}, {"^3", 3, 3}, {"5:1=1", 4, 3}, {"5.", 5, 3}, {"Home", 0, 0},
		{"5:2=2", 1, 0}, {"^0", 0, 0}, {"Sync", 0, 0}, {"5:2=2", 1, 0}, {"5.", 2, 0}, {"Sync", 2, 2}, {"Home", 0, 0}, {"^0", 0, 0},
	} {
		wantSteps(t, d, one.step)
		if all, synced := d.Log(); all != one.all || synced != one.synced {
			t.Errorf("Log behind %s: got %d, %d, want %d, %d", one.step, all, synced, one.all, one.synced)
		}
	}
}
