package wal

import (
	"fmt"
	"math"
	"strings"
	"testing"

	"platterhold/api"
	"platterhold/plain"
)

// step is a call that may change a disk. Put is what Write is given, n what End and Crash are given.
type step struct {
	call string
	put  api.Put
	n    int
}

// write is a step that writes.
func write(turn, block, value int) step {
	return step{call: "Write", put: api.Put{Turn: turn, Block: block, Value: value}}
}

// end is a step that ends a turn.
func end(turn int) step { return step{call: "End", n: turn} }

// crash is a step that leaves so many records.
func crash(n int) step { return step{call: "Crash", n: n} }

// stepOf is a step by its text: 3:7=5 is a Write by turn 3 into block 7, of 5, 3. is its End, and ^4 is a Crash that leaves
// four records.
func stepOf(text string) step {
	s := step{call: text}
	switch {
	case text == "Sync" || text == "Home":
		return s
	case scanned(text, "%d:%d=%d", &s.put.Turn, &s.put.Block, &s.put.Value):
		s.call = "Write"
	case strings.HasSuffix(text, ".") && scanned(text, "%d.", &s.n):
		s.call = "End"
	case scanned(text, "^%d", &s.n):
		s.call = "Crash"
	default:
		panic("no such step: " + text)
	}
	return s
}

// scanned tells whether a text has a form, and takes its numbers if so.
func scanned(text, form string, into ...any) bool {
	n, err := fmt.Sscanf(text, form, into...)
	return n == len(into) && err == nil
}

// stepsOf are some steps by their texts.
func stepsOf(text string) []step {
	var all []step
	for one := range strings.FieldsSeq(text) {
		all = append(all, stepOf(one))
	}
	return all
}

// String is the text of a step.
func (s step) String() string {
	switch s.call {
	case "Write":
		return fmt.Sprintf("%d:%d=%d", s.put.Turn, s.put.Block, s.put.Value)
	case "End":
		return fmt.Sprintf("%d.", s.n)
	case "Crash":
		return fmt.Sprintf("^%d", s.n)
	}
	return s.call
}

// on does the step on a disk; the number is what Sync tells.
func (s step) on(d *Disk) (int, error) {
	switch s.call {
	case "Write":
		return 0, d.Write(s.put)
	case "End":
		return 0, d.End(s.n)
	case "Crash":
		return 0, d.Crash(s.n)
	case "Home":
		return 0, d.Home()
	case "Sync":
		return d.Sync(), nil
	}
	panic("no such step: " + s.call)
}

// hasEnded tells whether a turn has ended, by a Write of no block, for which nothing is written either way.
func hasEnded(d *Disk, turn int) bool {
	return plain.Told(d.Write(api.Put{Turn: turn, Block: -1})) == api.ErrState
}

// stateOf is what can be asked of a disk, as a text: 7=5 for a block that is not 0, 3. for a turn that has ended, and 4/2
// for four records of which two last.
func stateOf(d *Disk) string {
	text := ""
	values := d.Values()
	for block, value := range values {
		if value != 0 {
			text += fmt.Sprintf("%d=%d ", block, value)
		}
	}
	for turn := range 20 {
		if hasEnded(d, turn) {
			text += fmt.Sprintf("%d. ", turn)
		}
	}
	all, synced := d.Log()
	text += fmt.Sprintf("%d/%d", all, synced)
	if len(values) != 8 {
		text += fmt.Sprintf(" of %d blocks", len(values))
	}
	return text
}

// wantState asks for the state of a disk.
func wantState(t *testing.T, what any, d *Disk, want string) {
	t.Helper()
	if got := stateOf(d); got != want {
		t.Errorf("%v: got %q, want %q", what, got, want)
	}
}

// wantError asks for an error, for which nil alone stands for none.
func wantError(t *testing.T, what any, err error, want api.Errno) {
	t.Helper()
	if told := plain.Told(err); told != want || (err == nil) != (want == api.OK) {
		t.Errorf("%v: error %v (nil: %v), want %v", what, told, err == nil, want)
	}
}

// wantStep does a step, and asks for its error; behind one the state is as it was. Sync tells how many records there are.
func wantStep(t *testing.T, d *Disk, s step, want api.Errno) {
	t.Helper()
	was := stateOf(d)
	all, _ := d.Log()
	got, err := s.on(d)
	wantError(t, s, err, want)
	if s.call == "Sync" && got != all {
		t.Errorf("Sync of %q: got %d, want %d", was, got, all)
	}
	if want != api.OK {
		wantState(t, s, d, was)
	}
}

// wantSteps does steps that come off.
func wantSteps(t *testing.T, d *Disk, text string) {
	t.Helper()
	for _, s := range stepsOf(text) {
		wantStep(t, d, s, api.OK)
		if t.Failed() {
			t.Fatalf("of %s", text)
		}
	}
}

// behind is a disk behind steps that come off.
func behind(t *testing.T, text string) *Disk {
	t.Helper()
	d := New()
	wantSteps(t, d, text)
	return d
}

// play are steps that come off, and the state behind them.
type play struct{ steps, want string }

// wantPlays does each of some plays.
func wantPlays(t *testing.T, all ...play) {
	t.Helper()
	for _, one := range all {
		wantState(t, one.steps, behind(t, one.steps), one.want)
	}
}

// fates are all that can become of a disk, as texts: behind each crash, and behind none, which turns can end, what the
// state is then, and behind a Home. The disk is made anew for each.
func fates(made func() *Disk) []string {
	var all []string
	records, _ := made().Log()
	for n := -1; n <= records+1; n++ {
		d := made()
		text := fmt.Sprintf("^%d %v: %s,", n, plain.Told(d.Crash(n)), stateOf(d))
		for turn := range 20 {
			text += fmt.Sprintf(" %v", plain.Told(d.End(19-turn)))
		}
		text += fmt.Sprintf(": %s, Home %v:", stateOf(d), plain.Told(d.Home()))
		all = append(all, text+" "+stateOf(d))
	}
	return all
}

// wantFates asks that of two disks the same can become.
func wantFates(t *testing.T, what any, one, other func() *Disk) {
	t.Helper()
	got, want := fates(one), fates(other)
	if len(got) != len(want) {
		t.Errorf("%v: %d fates, want %d", what, len(got), len(want))
		return
	}
	for i := range got {
		if got[i] != want[i] {
			t.Errorf("%v: got %q, want %q", what, got[i], want[i])
			return
		}
	}
}

// wantFruitless does steps that have an error behind others, and asks that of the disk the same can become.
func wantFruitless(t *testing.T, steps string, want api.Errno, bad ...step) {
	t.Helper()
	made := func() *Disk { return behind(t, steps) }
	for _, s := range bad {
		wantFates(t, s, func() *Disk {
			d := made()
			wantStep(t, d, s, want)
			return d
		}, made)
	}
}

// mixedUp are steps behind which turns 1 and 4 have ended, and 0, 2 and 19 have not; of its eleven records five last.
const mixedUp = "4:3=30 0:1=10 2:7=1000 4:1=11 4. Sync 1:3=31 19:0=0 1:7=1 0:1=12 1. 2:3=32"

// mixedUpState is the state behind these.
const mixedUpState = "1=11 3=31 7=1 1. 4. 11/5"

// many are so many Writes of a turn, into block after block, of 101, 102 and so on.
func many(turn, writes int) string {
	var texts []string
	for i := range writes {
		texts = append(texts, write(turn, i%8, 101+i).String())
	}
	return strings.Join(texts, " ")
}

// noTurns are numbers that no turn has, just outside and far off, also such as end in fit bits.
func noTurns() []int {
	return []int{
		-1, 20, -2, 21, -19, -20, -21, 31, 32, 60, 64, 255, 256, 257, 1 << 32, 1<<32 + 1, 1<<32 + 19, -1 << 32, -1<<32 + 4,
		1 << 62, 1<<62 + 19, -1 << 62, math.MinInt32, math.MaxInt32, math.MinInt, math.MinInt + 1, math.MinInt + 19,
		math.MaxInt - 19, math.MaxInt - 1, math.MaxInt,
	}
}

// noBlocks are numbers that no block has.
func noBlocks() []int {
	return []int{
		-1, 8, -2, 9, -7, -8, -9, 10, 15, 16, 20, 60, 255, 256, 257, 1 << 32, 1<<32 + 1, 1<<32 + 7, -1 << 32, -1<<32 + 3,
		1 << 62, 1<<62 + 7, -1 << 62, math.MinInt32, math.MaxInt32, math.MinInt, math.MinInt + 1, math.MinInt + 7,
		math.MaxInt - 7, math.MaxInt - 1, math.MaxInt,
	}
}

// noValues are numbers that can't be in a block.
func noValues() []int {
	return []int{
		-1, 1001, -2, 1002, -1000, -1001, 1023, 1024, 1025, 2000, 65536, 65537, 1 << 32, 1<<32 + 1, 1<<32 + 1000, -1 << 32,
		-1<<32 + 9, 1 << 62, 1<<62 + 1000, -1 << 62, math.MinInt32, math.MaxInt32, math.MinInt, math.MinInt + 1,
		math.MinInt + 1000, math.MaxInt - 1000, math.MaxInt - 1, math.MaxInt,
	}
}

// TestNumbers (17.1, P3): the numbers that bound things, which the tests here write out.
func TestNumbers(t *testing.T) {
	if api.MaxBlocks != 8 || api.MaxValue != 1000 || api.MaxRecs != 60 || api.MaxTurns != 20 {
		t.Fatalf("MaxBlocks %d, MaxValue %d, MaxRecs %d, MaxTurns %d", api.MaxBlocks, api.MaxValue, api.MaxRecs, api.MaxTurns)
	}
}

// TestNew (17.1): eight blocks of 0, and an empty log, in which no turn has ended.
func TestNew(t *testing.T) {
	wantState(t, "new", New(), "0/0")
}

// TestByHand (17.1, 17.2): what can be followed on paper.
func TestByHand(t *testing.T) {
	d := New()
	for _, one := range []struct {
		step string
		err  api.Errno
		want string
	}{
		{"3:0=7", api.OK, "1/0"},
		{"5:0=8", api.OK, "2/0"},
		{"5:1=9", api.OK, "3/0"},
		{"5.", api.OK, "0=8 1=9 5. 4/0"},
		{"5:2=1", api.ErrState, "0=8 1=9 5. 4/0"},
		{"Sync", api.OK, "0=8 1=9 5. 4/4"},
		{"3:2=4", api.OK, "0=8 1=9 5. 5/4"},
		{"Home", api.ErrState, "0=8 1=9 5. 5/4"},
		{"3.", api.OK, "0=7 1=9 2=4 3. 5. 6/4"},
		{"^3", api.ErrRange, "0=7 1=9 2=4 3. 5. 6/4"},
		{"^5", api.OK, "0=8 1=9 5. 3/3"},
		{"5.", api.ErrState, "0=8 1=9 5. 3/3"},
		{"3:1=0", api.OK, "0=8 1=9 5. 4/3"},
		{"3.", api.OK, "0=8 3. 5. 5/3"},
		{"Home", api.OK, "0=8 0/0"},
		{"^1", api.ErrRange, "0=8 0/0"},
		{"^0", api.OK, "0=8 0/0"},
		{"5.", api.OK, "0=8 5. 1/0"},
	} {
		wantStep(t, d, stepOf(one.step), one.err)
		wantState(t, one.step, d, one.want)
	}
}

// TestTwoDisks (17.1, P2): two disks share nothing, whichever one was made first.
func TestTwoDisks(t *testing.T) {
	one, other := New(), New()
	wantSteps(t, one, "0:1=5 0. Sync")
	wantState(t, "the other one", other, "0/0")
	wantSteps(t, other, "0:1=6 1:2=7 1.")
	wantState(t, "one", one, "1=5 0. 2/2")
	wantState(t, "the other one", other, "2=7 1. 3/0")
	wantSteps(t, other, "^1")
	wantSteps(t, one, "Home")
	wantState(t, "one", one, "1=5 0/0")
	wantState(t, "the other one", other, "0/0")
	wantSteps(t, other, "0:3=9 0. Home")
	wantState(t, "one", one, "1=5 0/0")
	wantState(t, "the other one", other, "3=9 0/0")
	wantState(t, "a new one", New(), "0/0")
}

// TestManyTimes (17.1, 17.2, P1): logs are filled, crash and are taken home as often as one likes.
func TestManyTimes(t *testing.T) {
	d := New()
	for i := range 20_000 {
		d.Write(api.Put{Turn: i % 20, Block: i % 8, Value: i % 1001})
		d.End((i + 7) % 23)
		switch i % 50 {
		case 20:
			d.Sync()
		case 30:
			all, synced := d.Log()
			d.Crash((all + synced) / 2)
		case 40:
			for turn := range 20 {
				d.End(turn)
			}
			d.Home()
		}
	}
	all, _ := d.Log()
	wantStep(t, d, crash(all), api.OK)
	wantStep(t, d, stepOf("Home"), api.OK)
	for block := range 8 {
		wantStep(t, d, write(3, block, 0), api.OK)
	}
	wantSteps(t, d, "3:5=55 3.")
	wantState(t, "many times", d, "5=55 3. 10/0")
}
