package shadow

import (
	"fmt"
	"slices"
	"testing"

	"platterhold/api"
)

// TestWriteEach (19.1): each page, and each value that may be: the value is there at once, by the new table alone.
func TestWriteEach(t *testing.T) {
	for page := range 8 {
		d := New()
		wantStep(t, d, write(page, 1+page), 0)
		wantState(t, "Write", d, fmt.Sprintf("%d@0=%d/0", page, 1+page))
	}
	d := New()
	wantStep(t, d, write(7, 0), 0)
	wantState(t, "Write", d, "7@0=0")
	for value := 1; value <= 1000; value++ {
		wantStep(t, d, write(7, value), 0)
		wantState(t, "Write", d, fmt.Sprintf("7@0=%d/0", value))
	}
	wantPlays(t,
		play{"0=1000", "0", "0@0=1000/0"},
		play{"7=1000 0=1", "0 1", "0@1=1/0 7@0=1000/0"},
		play{mixedUp, "0 1 2 3 4 4 5 6 3 1 2 7 - 1 2 7 8 8", mixedUpState},
	)
}

// TestWriteNoPage (19.1, P1): what is no page is ErrRange, with values that may be, and that may not.
func TestWriteNoPage(t *testing.T) {
	for _, d := range []*Disk{New(), behind(t, mixedUp), behind(t, allOf(1)+" End "+allOf(11))} {
		for _, page := range noPages() {
			for _, value := range []int{0, 5, 1000, -1, 1001, page} {
				wantRange(t, d, page, value)
			}
		}
	}
}

// TestWriteNoValue (19.1, P1): what can't be in a slot is ErrRange, be the page in none, in one by both tables, or in another
// one by the new table.
func TestWriteNoValue(t *testing.T) {
	for _, d := range []*Disk{New(), behind(t, mixedUp), behind(t, allOf(1)+" End "+allOf(11))} {
		for _, value := range noValues() {
			for page := range 8 {
				wantRange(t, d, page, value)
			}
		}
	}
}

// TestWriteNeither (19.1, P1): neither the page nor the value is one.
func TestWriteNeither(t *testing.T) {
	d := behind(t, mixedUp)
	for _, page := range noPages() {
		for _, value := range noValues() {
			wantRange(t, d, page, value)
		}
	}
	wantState(t, mixedUp, d, mixedUpState)
}

// TestWriteFruitless (19.1, P1): behind an error the same can become of the disk.
func TestWriteFruitless(t *testing.T) {
	for _, steps := range []string{"", "3=1 End", mixedUp, mixedUp + " End", mixedUp + " Crash", allOf(1) + " End " + allOf(11)} {
		made := func() *Disk { return behind(t, steps) }
		for _, bad := range []step{
			write(-1, 5), write(8, 5), write(16, 0), write(-1, -1), write(8, 1001), write(256, 5), write(1<<32, 5),
			write(0, -1), write(1, 1001), write(2, -1), write(3, 1001), write(4, -1), write(7, 1024), write(7, 1<<32),
		} {
			wantFates(t, bad, func() *Disk {
				d := made()
				wantRange(t, d, bad.page, bad.value)
				return d
			}, made)
		}
	}
}

// TestWriteAgain (19.1): while the tables say otherwise of a page, it stays where it is, with the value anew, whatever becomes
// of other pages, and also where a lesser slot is free.
func TestWriteAgain(t *testing.T) {
	wantPlays(t,
		play{"3=5 3=6", "0 0", "3@0=6/0"},
		play{"3=5 3=5", "0 0", "3@0=5/0"},
		play{"3=5 3=0", "0 0", "3@0=0"},
		play{"3=5 3=6 3=7 3=8", "0 0 0 0", "3@0=8/0"},
		play{"3=5 4=1 3=6 4=2", "0 1 0 1", "3@0=6/0 4@1=2/0"},
		play{"3=5 End 3=6 3=7", "0 1 1 1", "3@1=7/5"},
		play{"3=5 End 4=1 3=6 5=2 3=7", "0 1 1 2 3 2", "3@2=7/5 4@1=1/0 5@3=2/0"},
		play{"3=5 End 3=6 End 3=7 3=8", "0 1 1 1 0 0", "3@0=8/6"},
		play{"3=5 Crash 3=6 3=7", "0 - 0 0", "3@0=7/0"},
		play{"0=1 End 0=2 End 1=3 0=4 0=5", "0 1 1 1 0 2 2", "0@2=5/2 1@0=3/0"},
	)
	d := behind(t, allOf(1)+" End "+allOf(11))
	for page := range 8 {
		for _, value := range []int{1000, 0, 1 + page, 11 + page} {
			wantStep(t, d, write(page, value), 8+page)
		}
	}
	wantStep(t, d, stepOf("End"), 8)
}

// TestWriteFirst (19.1): the first Write of a page behind an End, or behind a Crash, goes into another slot than where the
// old table says that it is, once and again.
func TestWriteFirst(t *testing.T) {
	wantPlays(t,
		play{"3=5 End 3=6", "0 1 1", "3@1=6/5"},
		play{"3=5 End 3=5", "0 1 1", "3@1=5"},
		play{"3=5 End 3=6 End 3=7", "0 1 1 1 0", "3@0=7/6"},
		play{"3=5 End 3=6 End 3=7 End 3=8", "0 1 1 1 0 1 1", "3@1=8/7"},
		play{"3=5 End End 3=6", "0 1 0 1", "3@1=6/5"},
		play{"3=5 Crash 3=6", "0 - 0", "3@0=6/0"},
		play{"3=5 End Crash 3=6", "0 1 - 1", "3@1=6/5"},
		play{"3=5 End 3=6 Crash 3=7", "0 1 1 - 1", "3@1=7/5"},
		play{"3=5 End 3=6 End 3=7 Crash 3=8", "0 1 1 1 0 - 0", "3@0=8/6"},
		play{"3=5 End 3=6 Crash 4=1 3=7", "0 1 1 - 1 2", "3@2=7/5 4@1=1/0"},
	)
	for _, turn := range []string{"End", "Crash"} {
		for page := range 8 {
			d := behind(t, mixedUp+" "+turn)
			at := d.Slots()[page]
			slot, err := d.Write(page, 77)
			wantError(t, turn, err, api.OK)
			if slot == at {
				t.Errorf("%s: page %d stays in slot %d", turn, page, slot)
			}
		}
	}
}

// TestWriteLeast (19.1): the slot is the least one that is in neither table, also where others between have become free by
// an End or by a Crash.
func TestWriteLeast(t *testing.T) {
	wantPlays(t,
		play{"7=1 6=1 5=1 4=1", "0 1 2 3", "4@3=1/0 5@2=1/0 6@1=1/0 7@0=1/0"},
		play{"0=1 1=2 2=3 End 1=4 End 3=5", "0 1 2 3 3 1 1", "0@0=1 1@3=4 2@2=3 3@1=5/0"},
		play{"0=1 1=2 2=3 End 0=4 2=5 End 3=6 4=7 5=8", "0 1 2 3 3 4 2 0 2 5", "0@3=4 1@1=2 2@4=5 3@0=6/0 4@2=7/0 5@5=8/0"},
		play{"0=1 1=2 2=3 End 0=4 2=5 End 2=6 1=7", "0 1 2 3 3 4 2 0 2", "0@3=4 1@2=7/2 2@0=6/5"},
		play{"0=1 1=2 End 2=3 3=4 Crash 3=5", "0 1 2 2 3 - 2", "0@0=1 1@1=2 3@2=5/0"},
		play{"0=1 1=2 End 0=3 End 2=4 3=5 Crash 3=6 0=7", "0 1 2 2 1 0 3 - 0 3", "0@3=7/3 1@1=2 3@0=6/0"},
		play{"0=1 1=2 End 1=3 0=4 End 1=5 End 0=6", "0 1 2 2 3 2 0 1 1", "0@1=6/4 1@0=5"},
		play{"0=1 End 0=2 1=3 Crash 1=4 0=5", "0 1 1 2 - 1 2", "0@2=5/1 1@1=4/0"},
		play{mixedUp + " 2=1 End 2=2 2=3 End 3=1", "0 1 2 3 4 4 5 6 3 1 2 7 - 1 2 7 8 8 9 5 3 3 1 4", "0@0=10 1@2=41 2@3=3 3@4=1/13 4@7=14 5@8=0 6@6=26 7@1=7"},
	)
}

// TestWriteAll (19.1): all pages are written, ended, and all written again: the tables name all slots. Behind an End the first
// half is free, behind a Crash the second one.
func TestWriteAll(t *testing.T) {
	all := allOf(1) + " End " + allOf(11)
	toldAll := "0 1 2 3 4 5 6 7 8 8 9 10 11 12 13 14 15"
	wantPlays(t,
		play{allOf(1), "0 1 2 3 4 5 6 7", "0@0=1/0 1@1=2/0 2@2=3/0 3@3=4/0 4@4=5/0 5@5=6/0 6@6=7/0 7@7=8/0"},
		play{all, toldAll, "0@8=11/1 1@9=12/2 2@10=13/3 3@11=14/4 4@12=15/5 5@13=16/6 6@14=17/7 7@15=18/8"},
		play{all + " End 7=1 0=2", toldAll + " 8 0 1", "0@1=2/11 1@9=12 2@10=13 3@11=14 4@12=15 5@13=16 6@14=17 7@0=1/18"},
		play{all + " Crash 7=1 0=2", toldAll + " - 8 9", "0@9=2/1 1@1=2 2@2=3 3@3=4 4@4=5 5@5=6 6@6=7 7@8=1/8"},
	)
	for last := range 8 {
		d := behind(t, allOf(1)+" End")
		next := 8
		for page := range 8 {
			if page != last {
				wantStep(t, d, write(page, 21), next)
				next++
			}
		}
		wantStep(t, d, write(last, 22), 15)
		wantStep(t, d, stepOf("End"), 8)
		wantStep(t, d, write(last, 23), 0)
	}
}

// freeOf are the slots that no page is in, the least one first.
func freeOf(d *Disk) []int {
	slots := d.Slots()
	var free []int
	for slot := range 16 {
		if !slices.Contains(slots, slot) {
			free = append(free, slot)
		}
	}
	return free
}

// TestWriteRise (19.1): behind an End the pages go into the slots that are free, the least one first, up to the last one that
// is left when the tables name fifteen, whichever page is written first.
func TestWriteRise(t *testing.T) {
	for _, steps := range []string{
		"", "7=1", allOf(1), allOf(1) + " End 3=1", allOf(1) + " End 7=1 0=1 End 7=2", allOf(1) + " End " + allOf(11),
		allOf(1) + " End 6=1 2=1 4=1 End 4=1 6=1 1=1 End 0=1 4=2", mixedUp, mixedUp + " 2=1", mixedUp + " Crash",
		mixedUp + " End " + allOf(1) + " Crash 5=1",
	} {
		for _, order := range [][]int{{0, 1, 2, 3, 4, 5, 6, 7}, {7, 6, 5, 4, 3, 2, 1, 0}, {3, 0, 7, 4, 1, 6, 2, 5}} {
			d := behind(t, steps+" End")
			free := freeOf(d)
			for i, page := range order {
				wantStep(t, d, write(page, 6), free[i])
			}
		}
	}
}

// TestWriteAsWas (19.1): a 0, and a value that the page has already, are written as any other one.
func TestWriteAsWas(t *testing.T) {
	wantPlays(t,
		play{"3=0", "0", "3@0=0"},
		play{"3=0 4=0", "0 1", "3@0=0 4@1=0"},
		play{"3=0 End", "0 1", "3@0=0"},
		play{"3=0 Crash", "0 -", ""},
		play{"3=5 End 3=0", "0 1 1", "3@1=0/5"},
		play{"3=5 End 3=0 End", "0 1 1 1", "3@1=0"},
		play{"3=5 End 3=0 Crash", "0 1 1 -", "3@0=5"},
		play{"3=5 End 3=5", "0 1 1", "3@1=5"},
		play{"3=5 End 3=5 End", "0 1 1 1", "3@1=5"},
		play{"3=5 End 3=5 Crash", "0 1 1 -", "3@0=5"},
		play{"3=5 End 3=6 3=5", "0 1 1 1", "3@1=5"},
		play{"3=0 End 3=0 3=0 End 3=0", "0 1 1 1 1 0", "3@0=0"},
		play{"1=5 2=5 3=5", "0 1 2", "1@0=5/0 2@1=5/0 3@2=5/0"},
	)
}
