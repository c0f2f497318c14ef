package undo

import (
	"fmt"
	"testing"

	"platterhold/api"
)

// TestCrash (18.1): of no notes, one turn, several turns with several notes each, which count once each, and turns that have
// ended, which do not; once and twice.
func TestCrash(t *testing.T) {
	for _, one := range []struct {
		steps string
		turns int
		want  string
	}{
		{"", 0, ""},
		{"3.", 0, ""},
		{"3:4=1", 1, ""},
		{"3:4=0", 1, ""},
		{"3:4=1 3.", 0, "4=1"},
		{"3:4=1 3<", 0, ""},
		{"3:4=1 3:4=2 3:5=6", 1, ""},
		{"3:4=1 3. 3:4=2", 1, "4=1"},
		{"3:4=1 3. 3:4=2 3:4=3", 1, "4=1"},
		{"3:4=1 5:6=7", 2, ""},
		{"3:4=1 5:6=7 3:4=2 5:6=8", 2, ""},
		{"3:4=1 5:6=7 3:4=2 5:6=8 3.", 1, "4=2"},
		{"3:4=1 5:6=7 3:4=2 5:6=8 5<", 1, ""},
		{"3:4=1 5:6=7 3. 5. 3:6=8 5:4=2", 2, "4=1 6=7"},
		{"0:0=1 1:1=2 2:2=3 3:3=4 4:4=5 5:5=6 6:6=7 19:7=8", 8, ""},
		{mixedUp, 4, "3=30 5=50"},
		{mixedUp + " 0.", 3, "1=13 2=12 3=30 5=50"},
		{mixedUp + " 4< 19.", 2, "3=30 5=50"},
		{mixedUp + " 0. 2. 4. 19.", 0, "1=13 2=12 3=32 5=50 7=7"},
		{many(5, 60), 1, ""},
		{many(5, 30, 0, 1) + " " + many(6, 30, 2, 3), 2, ""},
	} {
		d := behind(t, one.steps)
		for i, want := range []int{one.turns, 0, 0} {
			if got := d.Crash(); got != want {
				t.Errorf("%s, Crash %d: got %d, want %d", one.steps, i, got, want)
			}
			wantState(t, one.steps, d, one.want)
		}
	}
}

// TestCrashEachTurn (18.1): each turn counts, alone and with another one.
func TestCrashEachTurn(t *testing.T) {
	for turn := range 20 {
		for other := range 20 {
			want := 2
			if other == turn {
				want = 1
			}
			d := behind(t, fmt.Sprintf("%d:0=1 %d:1=2 %d:2=3", turn, other, turn))
			if got := d.Crash(); got != want {
				t.Errorf("turns %d and %d: got %d, want %d", turn, other, got, want)
			}
			wantState(t, turn, d, "")
		}
	}
}

// TestCrashRoom (18.1): no block is anybody's behind it, and there is room for as many notes as may be.
func TestCrashRoom(t *testing.T) {
	for _, steps := range []string{"", "3:4=1", "3:4=1 3.", mixedUp, mixedUp + " 4. 2<", many(5, 60), many(5, 59, 3) + " 6:2=8"} {
		wantRoom(t, steps+" Crash", 60)
		wantRoom(t, steps+" Crash Crash", 60)
		wantRoom(t, steps+" Crash "+many(9, 25), 35)
		for turn := range 20 {
			d := behind(t, steps+" Crash")
			for block := range 8 {
				wantStep(t, d, write(turn, block, 5), api.OK)
			}
		}
	}
}

// TestCrashAnew (18.1): behind it turns write, end and are undone as on a new disk, but for what is in the blocks.
func TestCrashAnew(t *testing.T) {
	wantPlays(t,
		play{"3:4=1 Crash 3<", ""},
		play{"3:4=1 Crash 3.", ""},
		play{"5:4=9 5. 3:4=1 Crash 3:4=2 3<", "4=9"},
		play{"5:4=9 5. 3:4=1 Crash 3:4=2 3.", "4=2"},
		play{"5:4=9 5. 3:4=1 Crash 3:4=2 Crash", "4=9"},
		play{"5:4=9 5. 3:4=1 Crash 6:4=2 3<", "6:4=2"},
		play{mixedUp + " Crash 0:3=4 3:1=2", "3:1=2 0:3=4 5=50"},
		play{mixedUp + " Crash 0:3=4 3:1=2 Crash", "3=30 5=50"},
	)
}
