package undo

import (
	"fmt"
	"slices"
	"testing"

	"platterhold/api"
)

// TestValues (18.1): of all blocks, when nothing was written, and behind each call.
func TestValues(t *testing.T) {
	d := New()
	for _, one := range []struct {
		steps string
		want  []int
	}{
		{"", []int{0, 0, 0, 0, 0, 0, 0, 0}},
		{"3:0=5", []int{5, 0, 0, 0, 0, 0, 0, 0}},
		{"4:7=1000", []int{5, 0, 0, 0, 0, 0, 0, 1000}},
		{"3:0=6 3:1=8", []int{6, 8, 0, 0, 0, 0, 0, 1000}},
		{"4.", []int{6, 8, 0, 0, 0, 0, 0, 1000}},
		{"4:7=0", []int{6, 8, 0, 0, 0, 0, 0, 0}},
		{"3<", []int{0, 0, 0, 0, 0, 0, 0, 0}},
		{"2:6=1 2:5=2 2:4=3", []int{0, 0, 0, 0, 3, 2, 1, 0}},
		{"Crash", []int{0, 0, 0, 0, 0, 0, 0, 1000}},
		{many(6, 8) + " 6.", []int{101, 102, 103, 104, 105, 106, 107, 108}},
	} {
		wantSteps(t, d, one.steps)
		for range 2 {
			if got := d.Values(); !slices.Equal(got, one.want) {
				t.Errorf("Values behind %s: got %v, want %v", one.steps, got, one.want)
			}
		}
	}
}

// wantBusy asks whose each block is, and that what is no block is nobody's.
func wantBusy(t *testing.T, what any, d *Disk, want [8]int) {
	t.Helper()
	for block, turn := range want {
		if got := d.Busy(block); got != turn {
			t.Errorf("%v: Busy(%d): got %d, want %d", what, block, got, turn)
		}
	}
	for _, block := range noBlocks() {
		if got := d.Busy(block); got != -1 {
			t.Errorf("%v: Busy(%d): got %d, want -1", what, block, got)
		}
	}
}

// TestBusy (18.1, P1): each block, and what is no block, behind each call.
func TestBusy(t *testing.T) {
	d := New()
	for _, one := range []struct {
		steps string
		want  [8]int
	}{
		{"", [8]int{-1, -1, -1, -1, -1, -1, -1, -1}},
		{"0:0=5", [8]int{0, -1, -1, -1, -1, -1, -1, -1}},
		{"19:7=0", [8]int{0, -1, -1, -1, -1, -1, -1, 19}},
		{"0:0=6 0:1=7 3:4=5", [8]int{0, 0, -1, -1, 3, -1, -1, 19}},
		{"3.", [8]int{0, 0, -1, -1, -1, -1, -1, 19}},
		{"3:4=5 4:3=5", [8]int{0, 0, -1, 4, 3, -1, -1, 19}},
		{"0<", [8]int{-1, -1, -1, 4, 3, -1, -1, 19}},
		{"3:0=1 19:1=1", [8]int{3, 19, -1, 4, 3, -1, -1, 19}},
		{"Crash", [8]int{-1, -1, -1, -1, -1, -1, -1, -1}},
		{"7:0=1 6:1=1 5:2=1 4:3=1 3:4=1 2:5=1 1:6=1 0:7=1", [8]int{7, 6, 5, 4, 3, 2, 1, 0}},
	} {
		wantSteps(t, d, one.steps)
		wantBusy(t, one.steps, d, one.want)
	}
	wantBusy(t, "full", behind(t, many(9, 60)), [8]int{9, 9, 9, 9, 9, 9, 9, 9})
}

// TestBusyEach (18.1): each block of each turn.
func TestBusyEach(t *testing.T) {
	for turn := range 20 {
		for block := range 8 {
			want := [8]int{-1, -1, -1, -1, -1, -1, -1, -1}
			want[block] = turn
			steps := fmt.Sprintf("%d:%d=%d", turn, block, turn)
			wantBusy(t, steps, behind(t, steps), want)
		}
	}
}

// TestValuesAreTheCallers (18.1, P2): what Values told may be changed, as far as its memory goes, and stays as it is when
// more is written.
func TestValuesAreTheCallers(t *testing.T) {
	for _, steps := range []string{"", mixedUp, mixedUp + " 4<", mixedUp + " Crash", mixedUp + " 0. 2. 4. 19.", many(3, 50)} {
		d := behind(t, steps)
		was := stateOf(d)
		first, second := d.Values(), d.Values()
		kept := slices.Clone(second)
		first = first[:cap(first)]
		for i := range first {
			first[i] = 999
		}
		wantState(t, "what Values told was changed", d, was)
		for _, s := range append(stepsOf("2. 2:7=41 3:6=42 3:6=43 2< 3."), stepsOf("Crash 9:0=44 9. 8:1=45 8<")...) {
			s.on(d)
			d.Values()[2] = 888
		}
		if !slices.Equal(second, kept) {
			t.Errorf("what Values told was %v, and is %v", kept, second)
		}
		if slices.Contains(d.Values(), 888) || slices.Contains(d.Values(), 999) {
			t.Errorf("Values has what its caller wrote: %v", d.Values())
		}
	}
}

// TestAsked (18.1, P2): to ask changes nothing.
func TestAsked(t *testing.T) {
	made := func() *Disk { return behind(t, mixedUp) }
	wantFates(t, "asked", func() *Disk {
		d := made()
		for range 3 {
			d.Values()
			wantBusy(t, "asked", d, [8]int{19, 0, 0, 4, -1, -1, -1, 2})
		}
		return d
	}, made)
}

// TestPutIsCopied (18.1, P2): what was handed in may be changed behind the call.
func TestPutIsCopied(t *testing.T) {
	d := New()
	p := api.Put{Turn: 1, Block: 2, Value: 3}
	wantError(t, "Write", d.Write(p), api.OK)
	p.Turn, p.Block, p.Value = 4, 5, 6
	wantState(t, "changed behind Write", d, "1:2=3")
	wantSteps(t, d, "4. 1<")
	wantState(t, "undone", d, "")
}
