package shadow

import (
	"fmt"
	"math"
	"slices"
	"strings"
	"testing"

	"platterhold/api"
	"platterhold/plain"
)

// step is a call that may change a disk. Page and value are what Write is given.
type step struct {
	call        string
	page, value int
}

// write is a step that writes.
func write(page, value int) step { return step{"Write", page, value} }

// stepOf is a step by its text: 3=5 is a Write of page 3, of 5.
func stepOf(text string) step {
	if text == "End" || text == "Crash" {
		return step{call: text}
	}
	s := step{call: "Write"}
	if n, err := fmt.Sscanf(text, "%d=%d", &s.page, &s.value); n != 2 || err != nil {
		panic("no such step: " + text)
	}
	return s
}

// stepsOf are some steps by their texts.
func stepsOf(text string) []step {
	var all []step
	for one := range strings.FieldsSeq(text) {
		all = append(all, stepOf(one))
	}
	return all
}

// String is the text of a step.
func (s step) String() string {
	if s.call == "Write" {
		return fmt.Sprintf("%d=%d", s.page, s.value)
	}
	return s.call
}

// on does the step on a disk; the number is what it tells, of Crash 0.
func (s step) on(d *Disk) (int, error) {
	switch s.call {
	case "Write":
		return d.Write(s.page, s.value)
	case "End":
		return d.End(), nil
	case "Crash":
		d.Crash()
		return 0, nil
	}
	panic("no such step: " + s.call)
}

// stateOf is what can be asked of a disk, as a text: 3@4=5 for a page 3 that is in slot 4, with 5 by both tables, 3@4=6/5 for
// one with 6 by the new table, and 5 by the old one. Pages that are in no slot, and worth 0 by both, are left out.
func stateOf(d *Disk) string {
	now, old := d.Values()
	slots := d.Slots()
	if len(now) != 8 || len(old) != 8 || len(slots) != 8 {
		return fmt.Sprintf("%v %v %v", now, old, slots)
	}
	var texts []string
	for page, slot := range slots {
		switch {
		case now[page] != old[page]:
			texts = append(texts, fmt.Sprintf("%d@%d=%d/%d", page, slot, now[page], old[page]))
		case slot != -1 || now[page] != 0:
			texts = append(texts, fmt.Sprintf("%d@%d=%d", page, slot, now[page]))
		}
	}
	return strings.Join(texts, " ")
}

// wantState asks for the state of a disk.
func wantState(t *testing.T, what any, d *Disk, want string) {
	t.Helper()
	if got := stateOf(d); got != want {
		t.Errorf("%v: got %q, want %q", what, got, want)
	}
}

// wantApart asks that each page is in a slot that there is, or in none, and that no two are in one.
func wantApart(t *testing.T, what any, d *Disk) {
	t.Helper()
	slots := slices.Sorted(slices.Values(d.Slots()))
	for i, slot := range slots {
		if slot < -1 || slot > 15 || slot > -1 && i > 0 && slot == slots[i-1] {
			t.Errorf("%v: slots %v", what, d.Slots())
			return
		}
	}
}

// wantError asks for an error, for which nil alone stands for none.
func wantError(t *testing.T, what any, err error, want api.Errno) {
	t.Helper()
	if told := plain.Told(err); told != want || (err == nil) != (want == api.OK) {
		t.Errorf("%v: error %v (nil: %v), want %v", what, told, err == nil, want)
	}
}

// wantStep does a step that comes off, and asks for what it tells.
func wantStep(t *testing.T, d *Disk, s step, want int) {
	t.Helper()
	got, err := s.on(d)
	wantError(t, s, err, api.OK)
	if got != want {
		t.Errorf("%v: got %d, want %d", s, got, want)
	}
	wantApart(t, s, d)
}

// wantRange does a Write that is ErrRange: no slot is told, and the state is as it was.
func wantRange(t *testing.T, d *Disk, page, value int) {
	t.Helper()
	was := stateOf(d)
	got, err := d.Write(page, value)
	wantError(t, write(page, value), err, api.ErrRange)
	if got != 0 {
		t.Errorf("%v: got %d beside an error", write(page, value), got)
	}
	wantState(t, write(page, value), d, was)
}

// behind is a disk behind steps that come off.
func behind(t *testing.T, text string) *Disk {
	t.Helper()
	d := New()
	for _, s := range stepsOf(text) {
		_, err := s.on(d)
		wantError(t, s, err, api.OK)
		wantApart(t, s, d)
	}
	if t.Failed() {
		t.Fatalf("of %s", text)
	}
	return d
}

// play are steps, what each of them tells (- of Crash), and the state behind them.
type play struct{ steps, told, want string }

// wantPlays does each of some plays.
func wantPlays(t *testing.T, all ...play) {
	t.Helper()
	for _, one := range all {
		d := New()
		var told []string
		for _, s := range stepsOf(one.steps) {
			n, err := s.on(d)
			wantError(t, one.steps, err, api.OK)
			wantApart(t, one.steps, d)
			if s.call == "Crash" {
				told = append(told, "-")
			} else {
				told = append(told, fmt.Sprint(n))
			}
		}
		if got := strings.Join(told, " "); got != one.told {
			t.Errorf("%s: told %q, want %q", one.steps, got, one.told)
		}
		wantState(t, one.steps, d, one.want)
	}
}

// fates are all that can become of a disk, as texts: the state now, behind an End and behind a Crash, and behind each of
// these into which slots pages go that are written, and what is there then. The disk is made anew for each.
func fates(made func() *Disk) []string {
	var all []string
	for _, first := range []string{"", "End", "Crash"} {
		for _, more := range []string{"", "0=500 1=501 2=502 3=503 4=504 5=505 6=506 7=507", "7=1 4=2 2=3 Crash 6=4 1=5"} {
			d := made()
			text := stateOf(d)
			for _, s := range stepsOf(first + " " + more + " End") {
				n, err := s.on(d)
				text += fmt.Sprintf(", %v %d %v: %s", s, n, plain.Told(err), stateOf(d))
			}
			all = append(all, text)
		}
	}
	return all
}

// wantFates asks that of two disks the same can become.
func wantFates(t *testing.T, what any, one, other func() *Disk) {
	t.Helper()
	got, want := fates(one), fates(other)
	for i := range got {
		if got[i] != want[i] {
			t.Errorf("%v: got %q, want %q", what, got[i], want[i])
			return
		}
	}
}

// mixedUp are steps behind which pages are in all ways that they can be: page 2 was never written, pages 3 and 6 were ahead
// of the last End, pages 4 and 7 behind it alone, pages 1 and 5 both, page 0 behind it as well but ahead of a Crash. Slots
// between others have become free by an End (1 and 2) and by a Crash (7), and were given again.
const mixedUp = "0=10 1=11 3=13 5=15 End 1=21 3=13 6=26 End 0=40 1=31 4=0 Crash 7=7 1=41 4=14 5=15 5=0"

// mixedUpState is the state behind these.
const mixedUpState = "0@0=10 1@2=41/21 3@5=13 4@7=14/0 5@8=0/15 6@6=26 7@1=7/0"

// allOf are Writes of all pages, the first one first, of values from one on.
func allOf(from int) string {
	var texts []string
	for page := range 8 {
		texts = append(texts, write(page, from+page).String())
	}
	return strings.Join(texts, " ")
}

// noPages are numbers that no page has, just outside and far off, also such as end in fit bits.
func noPages() []int {
	return []int{
		-1, 8, -2, 9, -7, -8, -9, 10, 15, 16, 17, 20, 255, 256, 257, 1 << 32, 1<<32 + 1, 1<<32 + 7, -1 << 32, -1<<32 + 3,
		1 << 62, 1<<62 + 7, -1 << 62, math.MinInt32, math.MaxInt32, math.MinInt, math.MinInt + 1, math.MinInt + 7,
		math.MaxInt - 7, math.MaxInt - 1, math.MaxInt,
	}
}

// noValues are numbers that can't be in a slot.
func noValues() []int {
	return []int{
		-1, 1001, -2, 1002, -1000, -1001, 1023, 1024, 1025, 2000, 65536, 65537, 1 << 32, 1<<32 + 1, 1<<32 + 1000, -1 << 32,
		-1<<32 + 9, 1 << 62, 1<<62 + 1000, -1 << 62, math.MinInt32, math.MaxInt32, math.MinInt, math.MinInt + 1,
		math.MinInt + 1000, math.MaxInt - 1000, math.MaxInt - 1, math.MaxInt,
	}
}

// TestNumbers (19.1, P3): the numbers that bound things, which the tests here write out.
func TestNumbers(t *testing.T) {
	if api.MaxBlocks != 8 || api.MaxValue != 1000 {
		t.Fatalf("MaxBlocks %d, MaxValue %d", api.MaxBlocks, api.MaxValue)
	}
}

// TestNew (19.1): eight pages that are in no slot and worth 0, of which none is told otherwise.
func TestNew(t *testing.T) {
	d := New()
	now, old := d.Values()
	if want := make([]int, 8); !slices.Equal(now, want) || !slices.Equal(old, want) {
		t.Errorf("Values: got %v and %v, want %v twice", now, old, want)
	}
	if got, want := d.Slots(), []int{-1, -1, -1, -1, -1, -1, -1, -1}; !slices.Equal(got, want) {
		t.Errorf("Slots: got %v, want %v", got, want)
	}
	wantState(t, "new", d, "")
	wantPlays(t, play{"", "", ""}, play{"End", "0", ""}, play{"Crash", "-", ""}, play{"0=0", "0", "0@0=0"})
}

// TestByHand (19.1): what can be followed on paper.
func TestByHand(t *testing.T) {
	d := New()
	for _, one := range []struct {
		step string
		told int
		want string
	}{
		{"3=7", 0, "3@0=7/0"},
		{"5=9", 1, "3@0=7/0 5@1=9/0"},
		{"3=8", 0, "3@0=8/0 5@1=9/0"},
		{"End", 2, "3@0=8 5@1=9"},
		{"3=6", 2, "3@2=6/8 5@1=9"},
		{"4=1", 3, "3@2=6/8 4@3=1/0 5@1=9"},
		{"Crash", 0, "3@0=8 5@1=9"},
		{"4=2", 2, "3@0=8 4@2=2/0 5@1=9"},
		{"3=5", 3, "3@3=5/8 4@2=2/0 5@1=9"},
		{"End", 2, "3@3=5 4@2=2 5@1=9"},
		{"5=9", 0, "3@3=5 4@2=2 5@0=9"},
		{"End", 1, "3@3=5 4@2=2 5@0=9"},
		{"4=3", 1, "3@3=5 4@1=3/2 5@0=9"},
		{"4=4", 1, "3@3=5 4@1=4/2 5@0=9"},
		{"3=0", 4, "3@4=0/5 4@1=4/2 5@0=9"},
		{"Crash", 0, "3@3=5 4@2=2 5@0=9"},
		{"End", 0, "3@3=5 4@2=2 5@0=9"},
	} {
		wantStep(t, d, stepOf(one.step), one.told)
		wantState(t, one.step, d, one.want)
	}
}

// TestTwoDisks (19.1, P2): two disks share nothing, whichever one was made first.
func TestTwoDisks(t *testing.T) {
	one, other := New(), New()
	do := func(d *Disk, text string) {
		for _, s := range stepsOf(text) {
			s.on(d)
		}
	}
	do(one, "1=5 End 2=6")
	wantState(t, "the other one", other, "")
	do(other, "2=7 1=8 End")
	wantState(t, "one", one, "1@0=5 2@1=6/0")
	wantState(t, "the other one", other, "1@1=8 2@0=7")
	do(other, "2=9 Crash End")
	wantState(t, "one", one, "1@0=5 2@1=6/0")
	do(one, "End "+allOf(100))
	wantState(t, "the other one", other, "1@1=8 2@0=7")
	do(one, "Crash")
	do(other, allOf(200)+" End "+allOf(300)+" End")
	wantState(t, "one", one, "1@0=5 2@1=6")
	wantState(t, "a new one", New(), "")
}

// TestManyTimes (19.1, P1): pages are written, and tables turned about, as often as one likes.
func TestManyTimes(t *testing.T) {
	d := New()
	for i := range 50_000 {
		d.Write(i*i%11-1, i*7%1003-1)
		switch i % 13 {
		case 5:
			d.End()
		case 9:
			d.Crash()
		}
		wantApart(t, i, d)
	}
	d.End()
	for page := range 8 {
		d.Write(page, page)
	}
	d.End()
	for page := range 8 {
		slot, err := d.Write(page, page)
		wantError(t, "many times", err, api.OK)
		if slot < 0 || slot > 15 {
			t.Errorf("many times: page %d is in slot %d", page, slot)
		}
	}
	wantStep(t, d, stepOf("End"), 8)
}
