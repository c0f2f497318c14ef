package ranges

import (
	"fmt"
	"math"
	"slices"
	"strings"
	"testing"

	"platterhold/api"
	"platterhold/plain"
)

// lock is a lock by its text: 1:20+3 is owner 1's, of the three places from 20 on, and 1:20+3! is one alone.
func lock(text string) api.Lock {
	var l api.Lock
	run, isAlone := strings.CutSuffix(text, "!")
	if _, err := fmt.Sscanf(run, "%d:%d+%d", &l.Owner, &l.From, &l.Size); err != nil {
		panic(text + ": " + err.Error())
	}
	l.Alone = isAlone
	return l
}

// locks are some locks by their texts.
func locks(text string) []api.Lock {
	var all []api.Lock
	for one := range strings.FieldsSeq(text) {
		all = append(all, lock(one))
	}
	return all
}

// textOf is the text of a lock.
func textOf(l api.Lock) string {
	text := fmt.Sprintf("%d:%d+%d", l.Owner, l.From, l.Size)
	if l.Alone {
		text += "!"
	}
	return text
}

// textOfAll is the text of some locks.
func textOfAll(all []api.Lock) string {
	var texts []string
	for _, l := range all {
		texts = append(texts, textOf(l))
	}
	return strings.Join(texts, " ")
}

// step is a call that may change a table.
type step struct {
	call string
	l    api.Lock
}

// set is a step that sets a lock.
func set(text string) step { return step{"Set", lock(text)} }

// give is a step that frees what a lock tells.
func give(text string) step { return step{"Free", lock(text)} }

// String shows a step.
func (s step) String() string { return s.call + " " + textOf(s.l) }

// on does the step on a table.
func (s step) on(table *Table) error {
	switch s.call {
	case "Set":
		return table.Set(s.l)
	case "Free":
		return table.Free(s.l)
	}
	panic("no such step: " + s.call)
}

// answers are what Test tells of each lock of one place: more than List alone, if they were kept apart.
func answers(table *Table) []int {
	var all []int
	for owner := range 4 {
		for place := range 64 {
			for _, isAlone := range []bool{false, true} {
				least, err := table.Test(api.Lock{Owner: owner, From: place, Size: 1, Alone: isAlone})
				all = append(all, least, int(plain.Told(err)))
			}
		}
	}
	return all
}

// wantTable asks for all locks of a table.
func wantTable(t *testing.T, what any, table *Table, want string) {
	t.Helper()
	if got := textOfAll(table.List()); got != want {
		t.Errorf("%v: got %q, want %q", what, got, want)
	}
}

// wantError asks for an error, for which nil alone stands for none.
func wantError(t *testing.T, what any, err error, want api.Errno) {
	t.Helper()
	if told := plain.Told(err); told != want || (err == nil) != (want == api.OK) {
		t.Errorf("%v: error %v (nil: %v), want %v", what, told, err == nil, want)
	}
}

// wantStep does a step, and asks for its error; behind one all locks are as they were.
func wantStep(t *testing.T, table *Table, s step, want api.Errno) {
	t.Helper()
	was := textOfAll(table.List())
	wantError(t, s, s.on(table), want)
	if want != api.OK {
		wantTable(t, s, table, was)
	}
}

// wantTest tests a lock, and asks for the owner, or for the error.
func wantTest(t *testing.T, table *Table, l api.Lock, want int, wantNo api.Errno) {
	t.Helper()
	got, err := table.Test(l)
	wantError(t, "Test "+textOf(l), err, wantNo)
	if got != want {
		t.Errorf("Test %s of %s: got %d, want %d", textOf(l), textOfAll(table.List()), got, want)
	}
}

// tableWith is a table in which some locks were set.
func tableWith(t *testing.T, all []api.Lock) *Table {
	t.Helper()
	table := New()
	for _, l := range all {
		wantError(t, "Set "+textOf(l), table.Set(l), api.OK)
	}
	return table
}

// tableOf is a table in which some locks were set, by their texts.
func tableOf(t *testing.T, text string) *Table {
	t.Helper()
	return tableWith(t, locks(text))
}

// change is a step on a table of some locks, and the locks behind it.
type change struct {
	was string
	step
	want string
}

// wantAll does each of some steps that come off.
func wantAll(t *testing.T, all ...change) {
	t.Helper()
	for _, one := range all {
		table := tableOf(t, one.was)
		wantStep(t, table, one.step, api.OK)
		wantTable(t, fmt.Sprintf("%s behind %s", one.step, one.was), table, one.want)
	}
}

// row are so many locks of one place each of an owner, from a place on, each with a gap behind it.
func row(owner, from, many int) string {
	var texts []string
	for i := range many {
		texts = append(texts, textOf(api.Lock{Owner: owner, From: from + 2*i, Size: 1}))
	}
	return strings.Join(texts, " ")
}

// striped are so many locks of one place each of an owner, from place 0 on, of which each second one is alone.
func striped(owner, many int) string {
	var texts []string
	for i := range many {
		texts = append(texts, textOf(api.Lock{Owner: owner, From: i, Size: 1, Alone: i%2 == 1}))
	}
	return strings.Join(texts, " ")
}

// someTables are lists of locks, of which the last ones are as long as may be.
func someTables() []string {
	return []string{
		"",
		"0:0+64",
		"3:0+64!",
		"0:5+5 1:5+5 2:5+5 3:5+5",
		"0:0+1! 1:1+1! 2:2+1! 3:3+1!",
		"0:63+1 3:0+1!",
		"1:3+4 1:7+2! 1:9+6 2:12+5 2:30+1 3:40+24!",
		row(1, 0, 24),
		striped(2, 24),
		row(0, 0, 6) + " " + row(1, 3, 6) + " " + row(2, 6, 6) + " " + row(3, 9, 6),
	}
}

// noOwners are numbers that no owner has, just outside and far off, also such as end in fit bits.
func noOwners() []int {
	return []int{
		-1, 4, -2, 5, -3, -4, 7, 8, 64, 255, 256, 257, 1 << 32, 1<<32 + 1, 1<<32 + 3, -1 << 32, -1<<32 + 2, 1 << 62, 1<<62 + 3,
		-1 << 62, math.MinInt32, math.MaxInt32, math.MinInt, math.MinInt + 1, math.MinInt + 3, math.MaxInt - 1, math.MaxInt,
	}
}

// noPlaces are numbers that are no place.
func noPlaces() []int {
	return []int{
		-1, 64, -2, 65, -63, -64, -65, 66, 100, 127, 128, 255, 256, 257, 1 << 32, 1<<32 + 1, 1<<32 + 63, -1 << 32, -1<<32 + 9,
		1 << 62, 1<<62 + 63, -1 << 62, math.MinInt32, math.MaxInt32, math.MinInt, math.MinInt + 1, math.MinInt + 63,
		math.MaxInt - 63, math.MaxInt - 1, math.MaxInt,
	}
}

// noSizes are numbers that are no count of places from a place on.
func noSizes(from int) []int {
	room := 64 - from
	return []int{
		0, -1, room + 1, -2, room + 2, -room, -room - 1, -from, 65, 66, 128, 255, 256, 257, 1 << 32, 1<<32 + 1, 1<<32 + room,
		-1 << 32, -1<<32 + 1, 1 << 62, 1<<62 + 1, -1 << 62, math.MinInt32, math.MaxInt32, math.MinInt, math.MinInt + 1,
		math.MinInt + room, math.MaxInt - from, math.MaxInt - from + min(from, 1), math.MaxInt - 1, math.MaxInt,
	}
}

// noLocks are some with each fault, and with several at once.
func noLocks() []api.Lock {
	var all []api.Lock
	add := func(owner, from, size int) {
		all = append(all, api.Lock{Owner: owner, From: from, Size: size}, api.Lock{Owner: owner, From: from, Size: size, Alone: true})
	}
	for _, owner := range noOwners() {
		add(owner, 0, 1)
		add(owner, 3, 61)
		add(owner, owner, 1)
		add(owner, 64, owner)
	}
	for _, from := range noPlaces() {
		for _, size := range []int{0, 1, 2, 64, -1, from, -from, 64 - from, math.MinInt, math.MaxInt} {
			add(0, from, size)
			add(3, from, size)
		}
	}
	for from := range 64 {
		for _, size := range noSizes(from) {
			add(from%4, from, size)
		}
	}
	return all
}

// eachLock tells all locks that may be.
func eachLock(visit func(l api.Lock)) {
	for owner := range 4 {
		for from := range 64 {
			for size := 1; size <= 64-from; size++ {
				visit(api.Lock{Owner: owner, From: from, Size: size})
				visit(api.Lock{Owner: owner, From: from, Size: size, Alone: true})
			}
		}
	}
}

// TestNumbers (16.1, P3): the numbers that bound things, which the tests here write out.
func TestNumbers(t *testing.T) {
	if api.MaxOwners != 4 || api.MaxSize != 64 || api.MaxLocks != 24 {
		t.Fatalf("MaxOwners %d, MaxSize %d, MaxLocks %d", api.MaxOwners, api.MaxSize, api.MaxLocks)
	}
}

// TestNew (16.1): no locks, so that nobody stands against any, and nobody has anything to free.
func TestNew(t *testing.T) {
	table := New()
	wantTable(t, "new", table, "")
	eachLock(func(l api.Lock) {
		wantTest(t, table, l, -1, api.OK)
		wantStep(t, table, step{"Free", l}, api.OK)
	})
	wantTable(t, "new, and all was freed", table, "")
}

// TestEachLock (16.1): each one is set on a new table, is there alone, and is freed.
func TestEachLock(t *testing.T) {
	table := New()
	eachLock(func(l api.Lock) {
		wantStep(t, table, step{"Set", l}, api.OK)
		wantTable(t, "Set", table, textOf(l))
		wantStep(t, table, step{"Free", l}, api.OK)
		wantTable(t, "Free", table, "")
	})
}

// TestNoLocks (16.1, P1, P3): what is no lock is ErrRange for all of Test, Set and Free, also where somebody would stand
// against it, where it would be too much, and where just a part of it is none; -1, as Test tells of nobody, is not told.
func TestNoLocks(t *testing.T) {
	for _, text := range someTables() {
		table := tableOf(t, text)
		was := answers(table)
		for _, l := range noLocks() {
			wantTest(t, table, l, 0, api.ErrRange)
			wantStep(t, table, step{"Set", l}, api.ErrRange)
			wantStep(t, table, step{"Free", l}, api.ErrRange)
		}
		if now := answers(table); !slices.Equal(now, was) {
			t.Errorf("%s: Test tells something else behind what is no lock", text)
		}
	}
}

// TestByHand (16.1): what can be followed on paper.
func TestByHand(t *testing.T) {
	table := New()
	for _, one := range []struct {
		step
		err  api.Errno
		want string
	}{
		{set("0:10+5"), api.OK, "0:10+5"},
		{set("2:12+5"), api.OK, "0:10+5 2:12+5"},
		{set("1:14+1!"), api.ErrClash, "0:10+5 2:12+5"},
		{set("1:17+3!"), api.OK, "0:10+5 1:17+3! 2:12+5"},
		{set("0:10+2!"), api.OK, "0:10+2! 0:12+3 1:17+3! 2:12+5"},
		{set("0:11+2!"), api.ErrClash, "0:10+2! 0:12+3 1:17+3! 2:12+5"},
		{give("2:0+14"), api.OK, "0:10+2! 0:12+3 1:17+3! 2:14+3"},
		{set("0:11+2!"), api.OK, "0:10+3! 0:13+2 1:17+3! 2:14+3"},
		{give("1:18+1"), api.OK, "0:10+3! 0:13+2 1:17+1! 1:19+1! 2:14+3"},
		{set("3:18+1"), api.OK, "0:10+3! 0:13+2 1:17+1! 1:19+1! 2:14+3 3:18+1"},
		{set("1:18+1"), api.OK, "0:10+3! 0:13+2 1:17+1! 1:18+1 1:19+1! 2:14+3 3:18+1"},
		{give("0:0+64!"), api.OK, "1:17+1! 1:18+1 1:19+1! 2:14+3 3:18+1"},
		{give("0:0+65"), api.ErrRange, "1:17+1! 1:18+1 1:19+1! 2:14+3 3:18+1"},
	} {
		wantStep(t, table, one.step, one.err)
		wantTable(t, one.step, table, one.want)
	}
}

// TestTwoTables (16.1, P2): two tables share nothing, whichever one was made first.
func TestTwoTables(t *testing.T) {
	one, other := New(), New()
	wantStep(t, one, set("0:0+9!"), api.OK)
	wantTable(t, "the other one", other, "")
	wantTest(t, other, lock("1:0+9!"), -1, api.OK)
	wantStep(t, other, set("1:0+9!"), api.OK)
	wantTable(t, "one", one, "0:0+9!")
	wantTable(t, "the other one", other, "1:0+9!")
	wantStep(t, one, give("1:0+9"), api.OK)
	wantStep(t, other, give("1:0+4"), api.OK)
	wantTable(t, "one", one, "0:0+9!")
	wantTable(t, "the other one", other, "1:4+5!")
	wantTable(t, "a new one", New(), "")
}

// TestManyTimes (16.1, P1): locks are set and freed as often as one likes.
func TestManyTimes(t *testing.T) {
	table := New()
	for i := range 20_000 {
		table.Set(api.Lock{Owner: i % 4, From: i % 60, Size: 1 + i%5, Alone: i%3 == 0})
		table.Free(api.Lock{Owner: (i + 1) % 4, From: i % 50, Size: 1 + i%15})
	}
	for _, s := range []step{give("0:0+64"), give("1:0+64"), give("2:0+64"), give("3:0+64"), set("2:7+1!")} {
		wantStep(t, table, s, api.OK)
	}
	wantTable(t, "many times", table, "2:7+1!")
}
