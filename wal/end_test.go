package wal

import (
	"fmt"
	"testing"

	"platterhold/api"
)

// TestEndEach (17.1): each turn, which ends once.
func TestEndEach(t *testing.T) {
	all := New()
	for turn := range 20 {
		d := New()
		wantStep(t, d, end(turn), api.OK)
		wantState(t, end(turn), d, fmt.Sprintf("%d. 1/0", turn))
		for other := range 20 {
			if other != turn {
				wantStep(t, d, end(other), api.OK)
			} else {
				wantStep(t, d, end(other), api.ErrState)
			}
		}
		wantStep(t, all, end(19-turn), api.OK)
	}
	every := "0. 1. 2. 3. 4. 5. 6. 7. 8. 9. 10. 11. 12. 13. 14. 15. 16. 17. 18. 19. 20/0"
	wantState(t, "all", all, every)
	for turn := range 20 {
		wantStep(t, all, end(turn), api.ErrState)
	}
	wantState(t, "all twice", all, every)
}

// TestEndNoTurn (17.1, P1, P3): what is no turn is ErrRange, also where there is no room.
func TestEndNoTurn(t *testing.T) {
	for _, d := range []*Disk{New(), behind(t, mixedUp), behind(t, many(0, 60))} {
		for _, turn := range noTurns() {
			wantStep(t, d, end(turn), api.ErrRange)
		}
	}
}

// TestEndEnded (17.1): a turn that has ended, with and without records of its own, once or more often, and others since.
func TestEndEnded(t *testing.T) {
	d := behind(t, "6. 7:1=3 7. 8:1=4 8.")
	for range 3 {
		wantStep(t, d, end(6), api.ErrState)
		wantStep(t, d, end(7), api.ErrState)
		wantStep(t, d, end(8), api.ErrState)
	}
	wantState(t, "ended", d, "1=4 6. 7. 8. 5/0")
}

// TestEndFull (17.1, P3): just as many records as may be, and one more, which is ErrFull; a turn that has ended is ErrState
// ahead of it, and one that is none ErrRange.
func TestEndFull(t *testing.T) {
	d := behind(t, many(2, 20)+" "+many(1, 38)+" 4.")
	wantState(t, "59", d, "4. 59/0")
	wantSteps(t, d, "1.")
	full := "0=133 1=134 2=135 3=136 4=137 5=138 6=131 7=132 1. 4. 60/0"
	wantState(t, "60", d, full)
	for _, turn := range []int{0, 2, 3, 19} {
		wantStep(t, d, end(turn), api.ErrFull)
	}
	wantStep(t, d, end(1), api.ErrState)
	wantStep(t, d, end(4), api.ErrState)
	wantStep(t, d, end(20), api.ErrRange)
	wantStep(t, d, end(-1), api.ErrRange)
	wantState(t, "one more", d, full)
}

// TestEndFruitless (17.1, P1): behind an error the same can become of the disk.
func TestEndFruitless(t *testing.T) {
	wantFruitless(t, mixedUp, api.ErrRange, end(-1), end(20))
	wantFruitless(t, mixedUp, api.ErrState, end(1), end(4))
	wantFruitless(t, "3. "+mixedUp+" "+many(6, 48), api.ErrFull, end(0), end(2), end(5))
}

// TestSync (17.1): how many records there are, of an empty log, behind each call, and twice.
func TestSync(t *testing.T) {
	d := New()
	for _, one := range []struct {
		steps string
		want  int
		state string
	}{
		{"", 0, "0/0"},
		{"3:1=5", 1, "1/1"},
		{"3:2=6", 2, "2/2"},
		{"4. 5.", 4, "4. 5. 4/4"},
		{"", 4, "4. 5. 4/4"},
		{"3. 0:1=9", 6, "1=5 2=6 3. 4. 5. 6/6"},
		{"^6", 5, "1=5 2=6 3. 4. 5. 5/5"},
		{"0:1=9 ^5", 5, "1=5 2=6 3. 4. 5. 5/5"},
		{"Home", 0, "1=5 2=6 0/0"},
		{"3:1=8", 1, "1=5 2=6 1/1"},
		{"^1", 0, "1=5 2=6 0/0"},
		{many(3, 60), 60, "1=5 2=6 60/60"},
	} {
		wantSteps(t, d, one.steps)
		for range 2 {
			if got := d.Sync(); got != one.want {
				t.Errorf("Sync behind %s: got %d, want %d", one.steps, got, one.want)
			}
			wantState(t, "Sync", d, one.state)
		}
	}
}
