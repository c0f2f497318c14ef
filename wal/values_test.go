package wal

import (
	"slices"
	"testing"

	"platterhold/api"
)

// TestValues (17.1): of turns that have ended, in whatever way their records are mixed.
func TestValues(t *testing.T) {
	wantPlays(t,
		play{"2:4=7", "1/0"},
		play{"2:4=7 2.", "4=7 2. 2/0"},
		play{"2:4=7 3.", "3. 2/0"},
		play{"2:4=7 2:4=8 2.", "4=8 2. 3/0"},
		play{"2:4=8 2:4=7 2.", "4=7 2. 3/0"},
		play{"2:4=8 2:4=0 2.", "2. 3/0"},
		play{"2:4=8 2:3=1 2:4=7 2:4=9 2.", "3=1 4=9 2. 5/0"},
		play{"0:0=1 1:1=2 2:2=3 3:3=4 4:4=5 5:5=6 6:6=7 7:7=8 0. 1. 2. 3. 4. 5. 6. 7.",
			"0=1 1=2 2=3 3=4 4=5 5=6 6=7 7=8 0. 1. 2. 3. 4. 5. 6. 7. 16/0"},
		play{"5.", "5. 1/0"},
		play{"1:3=4 5. 1.", "3=4 1. 5. 3/0"},
		play{mixedUp, mixedUpState},
	)
}

// TestValuesOrder (17.1): of two turns that wrote the same block the one counts that ended last, in whatever order they
// wrote, and whichever number is less.
func TestValuesOrder(t *testing.T) {
	wantPlays(t,
		play{"1:0=5 2:0=6 1. 2.", "0=6 1. 2. 4/0"},
		play{"1:0=5 2:0=6 2. 1.", "0=5 1. 2. 4/0"},
		play{"2:0=6 1:0=5 1. 2.", "0=6 1. 2. 4/0"},
		play{"2:0=6 1:0=5 2. 1.", "0=5 1. 2. 4/0"},
		play{"1:0=5 1. 2:0=6 2.", "0=6 1. 2. 4/0"},
		play{"2:0=6 2. 1:0=5 1.", "0=5 1. 2. 4/0"},
		play{"1:0=5 2:0=6 1:0=7 2:0=8 1. 2.", "0=8 1. 2. 6/0"},
		play{"1:0=5 2:0=6 1:0=7 2:0=8 2. 1.", "0=7 1. 2. 6/0"},
		play{"1:0=5 2:0=6 2:1=8 1:2=9 2. 1.", "0=5 1=8 2=9 1. 2. 6/0"},
		play{"1:0=5 2:0=6 3:0=7 3. 1. 2.", "0=6 1. 2. 3. 6/0"},
		play{"1:0=5 2:0=6 3:0=7 2. 3. 1.", "0=5 1. 2. 3. 6/0"},
		play{"1:0=5 2:0=6 3:0=7 1. 2.", "0=6 1. 2. 5/0"},
		play{"1:0=5 2:0=0 1. 2.", "1. 2. 4/0"},
		play{"1:0=5 2:0=0 2. 1.", "0=5 1. 2. 4/0"},
	)
}

// TestValuesAbove (17.1, 17.2): what was in the blocks stays where no turn that has ended wrote.
func TestValuesAbove(t *testing.T) {
	wantPlays(t,
		play{"0:0=1 0:1=2 0. Home 0:1=3", "0=1 1=2 1/0"},
		play{"0:0=1 0:1=2 0. Home 0:1=3 0.", "0=1 1=3 0. 2/0"},
		play{"0:0=1 0:1=2 0. Home 5:0=0 5. 0:1=3", "1=2 5. 3/0"},
		play{"0:0=1 0:1=2 0. Home 5:0=4 0:0=3 5. 0. Home 6.", "0=3 1=2 6. 1/0"},
	)
}

// TestValuesAreTheCallers (17.1, P2): what Values told may be changed, as far as its memory goes, and stays as it is when
// more is written.
func TestValuesAreTheCallers(t *testing.T) {
	for _, steps := range []string{"", mixedUp, mixedUp + " ^11 Home", mixedUp + " ^11 Home 0:5=8", many(0, 60)} {
		d := behind(t, steps)
		was := stateOf(d)
		first, second := d.Values(), d.Values()
		kept := slices.Clone(second)
		first = first[:cap(first)]
		for i := range first {
			first[i] = 999
		}
		wantState(t, "what Values told was changed", d, was)
		d.End(0)
		all, _ := d.Log()
		for _, s := range append(stepsOf("3:0=41 3:7=42 3:1=43 3. Sync"), crash(all), stepOf("Home"), write(9, 0, 44), end(9), stepOf("Home")) {
			s.on(d)
			d.Values()[2] = 888
		}
		if !slices.Equal(second, kept) {
			t.Errorf("what Values told was %v, and is %v", kept, second)
		}
		if slices.Contains(d.Values(), 888) || slices.Contains(d.Values(), 999) {
			t.Errorf("Values has what its caller wrote: %v", d.Values())
		}
	}
}

// TestAsked (17.1, 17.2, P2): to ask changes nothing.
func TestAsked(t *testing.T) {
	made := func() *Disk { return behind(t, mixedUp) }
	wantFates(t, "asked", func() *Disk {
		d := made()
		for range 3 {
			d.Values()
			d.Log()
		}
		return d
	}, made)
}

// TestPutIsCopied (17.1, P2): what was handed in may be changed behind the call.
func TestPutIsCopied(t *testing.T) {
	d := New()
	p := api.Put{Turn: 1, Block: 2, Value: 3}
	wantError(t, "Write", d.Write(p), api.OK)
	p.Turn, p.Block, p.Value = 4, 5, 6
	wantSteps(t, d, "1. 4.")
	wantState(t, "changed behind Write", d, "2=3 1. 4. 3/0")
}
