package undo

import (
	"fmt"
	"math"
	"strings"
	"testing"

	"platterhold/api"
	"platterhold/plain"
)

// step is a call that may change a disk. Put is what Write is given, its turn alone what End and Undo are given.
type step struct {
	call string
	put  api.Put
}

// write is a step that writes.
func write(turn, block, value int) step {
	return step{call: "Write", put: api.Put{Turn: turn, Block: block, Value: value}}
}

// end is a step that ends a turn.
func end(turn int) step { return step{call: "End", put: api.Put{Turn: turn}} }

// back is a step that undoes a turn.
func back(turn int) step { return step{call: "Undo", put: api.Put{Turn: turn}} }

// stepOf is a step by its text: 3:7=5 is a Write by turn 3 into block 7, of 5, 3. is its End, 3< its Undo, and Crash a Crash.
func stepOf(text string) step {
	var p api.Put
	switch {
	case text == "Crash":
		return step{call: text}
	case scanned(text, "%d:%d=%d", &p.Turn, &p.Block, &p.Value):
		return step{"Write", p}
	case strings.HasSuffix(text, ".") && scanned(text, "%d.", &p.Turn):
		return step{"End", p}
	case strings.HasSuffix(text, "<") && scanned(text, "%d<", &p.Turn):
		return step{"Undo", p}
	}
	panic("no such step: " + text)
}

// scanned tells whether a text has a form, and takes its numbers if so.
func scanned(text, form string, into ...any) bool {
	n, err := fmt.Sscanf(text, form, into...)
	return n == len(into) && err == nil
}

// stepsOf are some steps by their texts.
func stepsOf(text string) []step {
	var all []step
	for one := range strings.FieldsSeq(text) {
		all = append(all, stepOf(one))
	}
	return all
}

// String is the text of a step.
func (s step) String() string {
	switch s.call {
	case "Write":
		return fmt.Sprintf("%d:%d=%d", s.put.Turn, s.put.Block, s.put.Value)
	case "End":
		return fmt.Sprintf("%d.", s.put.Turn)
	case "Undo":
		return fmt.Sprintf("%d<", s.put.Turn)
	}
	return s.call
}

// on does the step on a disk; the number is what Crash tells.
func (s step) on(d *Disk) (int, error) {
	switch s.call {
	case "Write":
		return 0, d.Write(s.put)
	case "End":
		return 0, d.End(s.put.Turn)
	case "Undo":
		return 0, d.Undo(s.put.Turn)
	case "Crash":
		return d.Crash(), nil
	}
	panic("no such step: " + s.call)
}

// stateOf is what can be asked of a disk, as a text: 3:7=5 for a block 7 that has 5 and is turn 3's, 7=5 for one that is
// nobody's. Blocks of 0 that are nobody's are left out.
func stateOf(d *Disk) string {
	values := d.Values()
	var texts []string
	for block, value := range values {
		if turn := d.Busy(block); turn != -1 {
			texts = append(texts, fmt.Sprintf("%d:%d=%d", turn, block, value))
		} else if value != 0 {
			texts = append(texts, fmt.Sprintf("%d=%d", block, value))
		}
	}
	if len(values) != 8 {
		texts = append(texts, fmt.Sprintf("of %d blocks", len(values)))
	}
	return strings.Join(texts, " ")
}

// turnsOf are the turns that have blocks, each once.
func turnsOf(d *Disk) map[int]bool {
	turns := map[int]bool{}
	for block := range 8 {
		if turn := d.Busy(block); turn != -1 {
			turns[turn] = true
		}
	}
	return turns
}

// wantState asks for the state of a disk.
func wantState(t *testing.T, what any, d *Disk, want string) {
	t.Helper()
	if got := stateOf(d); got != want {
		t.Errorf("%v: got %q, want %q", what, got, want)
	}
}

// wantError asks for an error, for which nil alone stands for none.
func wantError(t *testing.T, what any, err error, want api.Errno) {
	t.Helper()
	if told := plain.Told(err); told != want || (err == nil) != (want == api.OK) {
		t.Errorf("%v: error %v (nil: %v), want %v", what, told, err == nil, want)
	}
}

// wantStep does a step, and asks for its error; behind one the state is as it was. Crash tells how many turns have blocks.
func wantStep(t *testing.T, d *Disk, s step, want api.Errno) {
	t.Helper()
	was, turns := stateOf(d), len(turnsOf(d))
	got, err := s.on(d)
	wantError(t, s, err, want)
	if s.call == "Crash" && got != turns {
		t.Errorf("Crash of %q: got %d, want %d", was, got, turns)
	}
	if want != api.OK {
		wantState(t, s, d, was)
	}
}

// wantSteps does steps that come off.
func wantSteps(t *testing.T, d *Disk, text string) {
	t.Helper()
	for _, s := range stepsOf(text) {
		wantStep(t, d, s, api.OK)
		if t.Failed() {
			t.Fatalf("of %s", text)
		}
	}
}

// behind is a disk behind steps that come off.
func behind(t *testing.T, text string) *Disk {
	t.Helper()
	d := New()
	wantSteps(t, d, text)
	return d
}

// play are steps that come off, and the state behind them.
type play struct{ steps, want string }

// wantPlays does each of some plays.
func wantPlays(t *testing.T, all ...play) {
	t.Helper()
	for _, one := range all {
		wantState(t, one.steps, behind(t, one.steps), one.want)
	}
}

// roomOf is how many notes there is room for: block 0 is written so often. The disk is changed.
func roomOf(d *Disk) int {
	turn := max(d.Busy(0), 0)
	for room := range 1000 {
		if plain.Told(d.Write(api.Put{Turn: turn})) == api.ErrFull {
			return room
		}
	}
	return 1000
}

// wantRoom asks how many notes there is room for behind steps.
func wantRoom(t *testing.T, steps string, want int) {
	t.Helper()
	if got := roomOf(behind(t, steps)); got != want {
		t.Errorf("%s: there is room for %d notes, want %d", steps, got, want)
	}
}

// fates are all that can become of a disk, as texts: behind a Crash, and behind an End or an Undo of each turn, the state,
// and for how many notes there is room then. The disk is made anew for each.
func fates(made func() *Disk) []string {
	steps := []step{stepOf("Crash")}
	for turn := range 20 {
		steps = append(steps, end(turn), back(turn))
	}
	all := []string{fmt.Sprintf("%s, room %d", stateOf(made()), roomOf(made()))}
	for _, s := range steps {
		d := made()
		n, err := s.on(d)
		all = append(all, fmt.Sprintf("%v %d %v: %s, room %d", s, n, plain.Told(err), stateOf(d), roomOf(d)))
	}
	return all
}

// wantFates asks that of two disks the same can become.
func wantFates(t *testing.T, what any, one, other func() *Disk) {
	t.Helper()
	got, want := fates(one), fates(other)
	for i := range got {
		if got[i] != want[i] {
			t.Errorf("%v: got %q, want %q", what, got[i], want[i])
			return
		}
	}
}

// wantFruitless does steps that have an error behind others, and asks that of the disk the same can become.
func wantFruitless(t *testing.T, steps string, want api.Errno, bad ...step) {
	t.Helper()
	made := func() *Disk { return behind(t, steps) }
	for _, s := range bad {
		wantFates(t, s, func() *Disk {
			d := made()
			wantStep(t, d, s, want)
			return d
		}, made)
	}
}

// mixedUp are steps behind which turns 0, 2, 4 and 19 have four, two, two notes and one, that are mixed; what turns 4 and 1
// wrote before they ended is there as well.
const mixedUp = "4:3=30 0:1=10 4. 2:7=1000 4:3=31 0:1=11 19:0=0 1:5=50 1. 0:2=12 4:3=32 0:1=13 2:7=7"

// mixedUpState is the state behind these.
const mixedUpState = "19:0=0 0:1=13 0:2=12 4:3=32 5=50 2:7=7"

// many are so many Writes of a turn, into some blocks one behind the other (into all, if none are named), of 101, 102 and so
// on.
func many(turn, writes int, blocks ...int) string {
	if len(blocks) == 0 {
		blocks = []int{0, 1, 2, 3, 4, 5, 6, 7}
	}
	var texts []string
	for i := range writes {
		texts = append(texts, write(turn, blocks[i%len(blocks)], 101+i).String())
	}
	return strings.Join(texts, " ")
}

// noTurns are numbers that no turn has, just outside and far off, also such as end in fit bits.
func noTurns() []int {
	return []int{
		-1, 20, -2, 21, -19, -20, -21, 31, 32, 60, 64, 255, 256, 257, 1 << 32, 1<<32 + 1, 1<<32 + 19, -1 << 32, -1<<32 + 4,
		1 << 62, 1<<62 + 19, -1 << 62, math.MinInt32, math.MaxInt32, math.MinInt, math.MinInt + 1, math.MinInt + 19,
		math.MaxInt - 19, math.MaxInt - 1, math.MaxInt,
	}
}

// noBlocks are numbers that no block has.
func noBlocks() []int {
	return []int{
		-1, 8, -2, 9, -7, -8, -9, 10, 15, 16, 20, 60, 255, 256, 257, 1 << 32, 1<<32 + 1, 1<<32 + 7, -1 << 32, -1<<32 + 3,
		1 << 62, 1<<62 + 7, -1 << 62, math.MinInt32, math.MaxInt32, math.MinInt, math.MinInt + 1, math.MinInt + 7,
		math.MaxInt - 7, math.MaxInt - 1, math.MaxInt,
	}
}

// noValues are numbers that can't be in a block.
func noValues() []int {
	return []int{
		-1, 1001, -2, 1002, -1000, -1001, 1023, 1024, 1025, 2000, 65536, 65537, 1 << 32, 1<<32 + 1, 1<<32 + 1000, -1 << 32,
		-1<<32 + 9, 1 << 62, 1<<62 + 1000, -1 << 62, math.MinInt32, math.MaxInt32, math.MinInt, math.MinInt + 1,
		math.MinInt + 1000, math.MaxInt - 1000, math.MaxInt - 1, math.MaxInt,
	}
}

// TestNumbers (18.1, P3): the numbers that bound things, which the tests here write out.
func TestNumbers(t *testing.T) {
	if api.MaxBlocks != 8 || api.MaxValue != 1000 || api.MaxRecs != 60 || api.MaxTurns != 20 {
		t.Fatalf("MaxBlocks %d, MaxValue %d, MaxRecs %d, MaxTurns %d", api.MaxBlocks, api.MaxValue, api.MaxRecs, api.MaxTurns)
	}
}

// TestNew (18.1): eight blocks of 0, which are nobody's, and room for sixty notes.
func TestNew(t *testing.T) {
	wantState(t, "new", New(), "")
	wantRoom(t, "", 60)
	wantStep(t, New(), stepOf("Crash"), api.OK)
}

// TestByHand (18.1): what can be followed on paper.
func TestByHand(t *testing.T) {
	d := New()
	for _, one := range []struct {
		step string
		err  api.Errno
		want string
	}{
		{"3:0=7", api.OK, "3:0=7"},
		{"5:0=8", api.ErrClash, "3:0=7"},
		{"5:1=9", api.OK, "3:0=7 5:1=9"},
		{"3:0=6", api.OK, "3:0=6 5:1=9"},
		{"3:2=5", api.OK, "3:0=6 5:1=9 3:2=5"},
		{"5.", api.OK, "3:0=6 1=9 3:2=5"},
		{"3:1=4", api.OK, "3:0=6 3:1=4 3:2=5"},
		{"5:1=3", api.ErrClash, "3:0=6 3:1=4 3:2=5"},
		{"5<", api.OK, "3:0=6 3:1=4 3:2=5"},
		{"3<", api.OK, "1=9"},
		{"5:0=8", api.OK, "5:0=8 1=9"},
		{"3:1=2", api.OK, "5:0=8 3:1=2"},
		{"20.", api.ErrRange, "5:0=8 3:1=2"},
		{"5.", api.OK, "0=8 3:1=2"},
		{"5:4=1", api.OK, "0=8 3:1=2 5:4=1"},
		{"Crash", api.OK, "0=8 1=9"},
		{"5<", api.OK, "0=8 1=9"},
	} {
		wantStep(t, d, stepOf(one.step), one.err)
		wantState(t, one.step, d, one.want)
	}
}

// TestTwoDisks (18.1, P2): two disks share nothing, whichever one was made first.
func TestTwoDisks(t *testing.T) {
	one, other := New(), New()
	wantSteps(t, one, "0:1=5 0. 3:2=6")
	wantState(t, "the other one", other, "")
	wantSteps(t, other, "4:2=7 0:1=8 4.")
	wantState(t, "one", one, "1=5 3:2=6")
	wantState(t, "the other one", other, "0:1=8 2=7")
	wantSteps(t, other, "3. 0< 3<")
	wantState(t, "one", one, "1=5 3:2=6")
	wantSteps(t, one, "Crash 2:7=9")
	wantState(t, "one", one, "1=5 2:7=9")
	wantState(t, "the other one", other, "2=7")
	wantSteps(t, other, "2. "+many(2, 60)+" Crash")
	wantState(t, "one", one, "1=5 2:7=9")
	wantState(t, "the other one", other, "2=7")
	wantState(t, "a new one", New(), "")
}

// TestManyTimes (18.1, P1): notes are made, put back and forgotten as often as one likes.
func TestManyTimes(t *testing.T) {
	d := New()
	for i := range 50_000 {
		d.Write(api.Put{Turn: i % 20, Block: i * i % 8, Value: i % 1001})
		switch i % 7 {
		case 3:
			d.End((i + 3) % 23)
		case 5:
			d.Undo(i%23 - 1)
		}
		if i%500 == 499 {
			d.Crash()
		}
	}
	d.Crash()
	for block := range 8 {
		wantStep(t, d, write(3, block, 0), api.OK)
	}
	wantSteps(t, d, "3. 4:5=55")
	wantState(t, "many times", d, "4:5=55")
	if room := roomOf(d); room != 59 {
		t.Errorf("many times: there is room for %d notes, want 59", room)
	}
}
