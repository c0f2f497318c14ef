package shadow

import (
	"slices"
	"testing"
)

// TestValues (19.1): of all pages by both tables, when nothing was written, and behind each call: the old ones stay till the
// End, and both are the same behind it, and behind a Crash.
func TestValues(t *testing.T) {
	d := New()
	for _, one := range []struct {
		steps    string
		now, old []int
	}{
		{"", []int{0, 0, 0, 0, 0, 0, 0, 0}, []int{0, 0, 0, 0, 0, 0, 0, 0}},
		{"0=5", []int{5, 0, 0, 0, 0, 0, 0, 0}, []int{0, 0, 0, 0, 0, 0, 0, 0}},
		{"7=1000", []int{5, 0, 0, 0, 0, 0, 0, 1000}, []int{0, 0, 0, 0, 0, 0, 0, 0}},
		{"0=6 1=8", []int{6, 8, 0, 0, 0, 0, 0, 1000}, []int{0, 0, 0, 0, 0, 0, 0, 0}},
		{"End", []int{6, 8, 0, 0, 0, 0, 0, 1000}, []int{6, 8, 0, 0, 0, 0, 0, 1000}},
		{"7=0", []int{6, 8, 0, 0, 0, 0, 0, 0}, []int{6, 8, 0, 0, 0, 0, 0, 1000}},
		{"1=3 1=4 3=9", []int{6, 4, 0, 9, 0, 0, 0, 0}, []int{6, 8, 0, 0, 0, 0, 0, 1000}},
		{"Crash", []int{6, 8, 0, 0, 0, 0, 0, 1000}, []int{6, 8, 0, 0, 0, 0, 0, 1000}},
		{allOf(101), []int{101, 102, 103, 104, 105, 106, 107, 108}, []int{6, 8, 0, 0, 0, 0, 0, 1000}},
		{"2=7", []int{101, 102, 7, 104, 105, 106, 107, 108}, []int{6, 8, 0, 0, 0, 0, 0, 1000}},
		{"End", []int{101, 102, 7, 104, 105, 106, 107, 108}, []int{101, 102, 7, 104, 105, 106, 107, 108}},
		{allOf(201), []int{201, 202, 203, 204, 205, 206, 207, 208}, []int{101, 102, 7, 104, 105, 106, 107, 108}},
		{"Crash Crash", []int{101, 102, 7, 104, 105, 106, 107, 108}, []int{101, 102, 7, 104, 105, 106, 107, 108}},
	} {
		for _, s := range stepsOf(one.steps) {
			s.on(d)
		}
		for range 2 {
			if now, old := d.Values(); !slices.Equal(now, one.now) || !slices.Equal(old, one.old) {
				t.Errorf("Values behind %s: got %v and %v, want %v and %v", one.steps, now, old, one.now, one.old)
			}
		}
	}
}

// TestSlots (19.1): of all pages by the new table, when nothing was written, and behind each call.
func TestSlots(t *testing.T) {
	d := New()
	for _, one := range []struct {
		steps string
		want  []int
	}{
		{"", []int{-1, -1, -1, -1, -1, -1, -1, -1}},
		{"End Crash", []int{-1, -1, -1, -1, -1, -1, -1, -1}},
		{"4=5", []int{-1, -1, -1, -1, 0, -1, -1, -1}},
		{"7=1000 4=6", []int{-1, -1, -1, -1, 0, -1, -1, 1}},
		{"Crash", []int{-1, -1, -1, -1, -1, -1, -1, -1}},
		{"7=0 0=0", []int{1, -1, -1, -1, -1, -1, -1, 0}},
		{"End", []int{1, -1, -1, -1, -1, -1, -1, 0}},
		{"7=3", []int{1, -1, -1, -1, -1, -1, -1, 2}},
		{"End 2=4 3=5", []int{1, -1, 0, 3, -1, -1, -1, 2}},
		{"7=6 3=7", []int{1, -1, 0, 3, -1, -1, -1, 4}},
		{"Crash", []int{1, -1, -1, -1, -1, -1, -1, 2}},
		{allOf(101), []int{0, 3, 4, 5, 6, 7, 8, 9}},
		{"End " + allOf(201), []int{1, 2, 10, 11, 12, 13, 14, 15}},
		{"Crash", []int{0, 3, 4, 5, 6, 7, 8, 9}},
	} {
		for _, s := range stepsOf(one.steps) {
			s.on(d)
		}
		for range 2 {
			if got := d.Slots(); !slices.Equal(got, one.want) {
				t.Errorf("Slots behind %s: got %v, want %v", one.steps, got, one.want)
			}
		}
	}
}

// TestSlotsOld (19.1): what the old table says is not told ahead of a Crash, and is what Slots tells behind it.
func TestSlotsOld(t *testing.T) {
	d := behind(t, allOf(1)+" End "+allOf(11))
	if got, want := d.Slots(), []int{8, 9, 10, 11, 12, 13, 14, 15}; !slices.Equal(got, want) {
		t.Errorf("Slots: got %v, want %v", got, want)
	}
	d.Crash()
	if got, want := d.Slots(), []int{0, 1, 2, 3, 4, 5, 6, 7}; !slices.Equal(got, want) {
		t.Errorf("Slots behind a Crash: got %v, want %v", got, want)
	}
}

// listsOf are all lists that can be asked for.
func listsOf(d *Disk) [][]int {
	now, old := d.Values()
	return [][]int{now, old, d.Slots()}
}

// manyStates are steps behind which the tables are the same, and behind which they are not.
func manyStates() []string {
	return []string{"", "3=5", "3=5 End", mixedUp, mixedUp + " End", mixedUp + " Crash", allOf(1) + " End " + allOf(11)}
}

// TestListsAreTheCallers (19.1, P2): each list that comes out may be changed, as far as its memory goes: neither the disk nor
// any other list is then another one.
func TestListsAreTheCallers(t *testing.T) {
	for _, steps := range manyStates() {
		for changed := range 3 {
			made := func() *Disk { return behind(t, steps) }
			wantFates(t, "a list was changed", func() *Disk {
				d := made()
				want := append(listsOf(d), listsOf(d)...)
				lists := append(listsOf(d), listsOf(d)...)
				whole := lists[changed][:cap(lists[changed])]
				for i := range whole {
					whole[i] = 999
				}
				for i, list := range lists {
					if i != changed && !slices.Equal(list, want[i]) {
						t.Errorf("%s: list %d was changed with list %d: %v, want %v", steps, i, changed, list, want[i])
					}
				}
				return d
			}, made)
		}
	}
}

// TestListsStay (19.1, P2): what was told stays as it is, whatever becomes of the disk.
func TestListsStay(t *testing.T) {
	more := " 3=41 3=42 End 3=43 Crash 6=44 Crash " + allOf(45) + " End " + allOf(55) + " End " + allOf(65)
	for _, steps := range manyStates() {
		d := behind(t, steps)
		told := listsOf(d)
		var want [][]int
		for _, list := range told {
			want = append(want, slices.Clone(list))
		}
		for _, s := range stepsOf(more) {
			s.on(d)
			for _, list := range listsOf(d) {
				list[2] = 888
			}
			for i, list := range told {
				if !slices.Equal(list, want[i]) {
					t.Fatalf("%s, and %v: what was told was %v, and is %v", steps, s, want[i], list)
				}
			}
		}
		wantState(t, steps, d, stateOf(behind(t, steps+more)))
	}
}

// TestAsked (19.1, P2): to ask changes nothing.
func TestAsked(t *testing.T) {
	for _, steps := range manyStates() {
		made := func() *Disk { return behind(t, steps) }
		wantFates(t, "asked", func() *Disk {
			d := made()
			want := stateOf(d)
			for range 3 {
				d.Slots()
				d.Values()
				wantState(t, steps, d, want)
			}
			return d
		}, made)
	}
}
