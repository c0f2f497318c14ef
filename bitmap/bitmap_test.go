package bitmap

import (
	"fmt"
	"math"
	"strings"
	"testing"

	"platterhold/api"
	"platterhold/plain"
)

// blocks are those of a map, as a text: x is taken, and a point is free. What comes of a call is looked up in the text,
// which is another way than the program's.
type blocks string

// noneTaken are the blocks of a new map.
const noneTaken = blocks("................................")

// allTaken are those of a map of which all is taken.
const allTaken = blocks("xxxxxxxxxxxxxxxxxxxxxxxxxxxxxxxx")

// with are the same blocks, but for n of them from at on.
func (b blocks) with(at, n int, mark string) blocks {
	return b[:at] + blocks(strings.Repeat(mark, n)) + b[at+n:]
}

// take tells what Take has to answer, and what the blocks are then.
func (b blocks) take(n int) (int, api.Errno, blocks) {
	if n < 1 || n > 32 {
		return 0, api.ErrRange, b
	}
	at := strings.Index(string(b), strings.Repeat(".", n))
	if at < 0 {
		return 0, api.ErrFull, b
	}
	return at, api.OK, b.with(at, n, "x")
}

// back tells what Back has to answer, and what the blocks are then. It is asked of numbers alone whose sum is a number.
func (b blocks) back(at, n int) (api.Errno, blocks) {
	if n < 1 || n > 32 || at < 0 || at+n > 32 {
		return api.ErrRange, b
	}
	if strings.Contains(string(b[at:at+n]), ".") {
		return api.ErrNone, b
	}
	return api.OK, b.with(at, n, ".")
}

// free tells what Free has to answer.
func (b blocks) free() (all, most int) {
	for _, gap := range strings.Split(string(b), "x") {
		all += len(gap)
		most = max(most, len(gap))
	}
	return all, most
}

// mapOf makes a map by its calls: all is taken, and then each free block is given back.
func mapOf(t *testing.T, b blocks) *Map {
	t.Helper()
	if len(b) != 32 {
		t.Fatalf("%s has %d blocks", b, len(b))
	}
	m := New()
	if at, err := m.Take(32); at != 0 || err != nil {
		t.Fatalf("Take(32) of a new map: %d, %v", at, err)
	}
	for i, mark := range b {
		if mark != '.' {
			continue
		}
		if err := m.Back(i, 1); err != nil {
			t.Fatalf("Back(%d, 1) of what is taken: %v", i, err)
		}
	}
	return m
}

// wantError asks for an error, for which nil alone stands for none.
func wantError(t *testing.T, what string, err error, want api.Errno) {
	t.Helper()
	if told := plain.Told(err); told != want {
		t.Errorf("%s: error %v, want %v", what, told, want)
	}
	if (err == nil) != (want == api.OK) {
		t.Errorf("%s: error is nil: %v, want %v", what, err == nil, want == api.OK)
	}
}

// wantBlocks asks for all that can be told of a map.
func wantBlocks(t *testing.T, what string, m *Map, want blocks) {
	t.Helper()
	var got [32]byte
	for i := range got {
		got[i] = '.'
		if m.Has(i) {
			got[i] = 'x'
		}
	}
	if string(got[:]) != string(want) {
		t.Errorf("%s: the blocks are %s, want %s", what, got, want)
	}
	if m.Has(-1) || m.Has(32) {
		t.Errorf("%s: a block outside is taken: %v, %v", what, m.Has(-1), m.Has(32))
	}
	all, most := m.Free()
	if wantAll, wantMost := want.free(); all != wantAll || most != wantMost {
		t.Errorf("%s: %s has %d free and %d beside each other, want %d and %d", what, want, all, most, wantAll, wantMost)
	}
}

// wantTake takes, and asks for what is told and for the blocks behind it.
func wantTake(t *testing.T, m *Map, n, at int, no api.Errno, behind blocks) {
	t.Helper()
	what := fmt.Sprintf("Take(%d)", n)
	got, err := m.Take(n)
	wantError(t, what, err, no)
	if got != at {
		t.Errorf("%s: from %d on, want %d", what, got, at)
	}
	wantBlocks(t, what, m, behind)
}

// wantBack gives back, and asks for what is told and for the blocks behind it.
func wantBack(t *testing.T, m *Map, at, n int, no api.Errno, behind blocks) {
	t.Helper()
	what := fmt.Sprintf("Back(%d, %d)", at, n)
	wantError(t, what, m.Back(at, n), no)
	wantBlocks(t, what, m, behind)
}

// someBlocks are maps of many kinds.
func someBlocks() []blocks {
	return []blocks{
		noneTaken,
		allTaken,
		"x...............................",
		"...............................x",
		".xxxxxxxxxxxxxxxxxxxxxxxxxxxxxxx",
		"xxxxxxxxxxxxxxxxxxxxxxxxxxxxxxx.",
		"x.x.x.x.x.x.x.x.x.x.x.x.x.x.x.x.",
		".x.x.x.x.x.x.x.x.x.x.x.x.x.x.x.x",
		"xxxxxxxxxxxxxxxx................",
		"................xxxxxxxxxxxxxxxx",
		"xxxxxxxxxxxxxxx..xxxxxxxxxxxxxxx",
		"...xx....x..xxxxx.......xx.x....",
	}
}

// noCounts are numbers just outside of how many may be asked for, and far from it, also such as end in fit bits.
func noCounts() []int {
	return []int{
		0, -1, 33, -2, 34, -31, -32, -33, 63, 64, 65, 100, 256, 257, 1<<32 + 1, 1<<32 + 32, -1<<32 + 1,
		math.MinInt32, math.MaxInt32, math.MinInt, math.MinInt + 1, math.MinInt + 32, math.MaxInt, math.MaxInt - 1,
	}
}

// noBlocks are numbers of which none is one of a block.
func noBlocks() []int {
	return []int{
		-1, 32, -2, 33, -31, -32, -33, 63, 64, 65, 100, 256, 1 << 32, 1<<32 + 5, -1 << 32, -1<<32 + 5,
		math.MinInt32, math.MaxInt32, math.MinInt, math.MinInt + 1, math.MinInt + 31, math.MaxInt, math.MaxInt - 31,
	}
}

// TestNumbers (8.1, P3): the number that bounds the blocks, which the tests here write out.
func TestNumbers(t *testing.T) {
	if api.MaxBits != 32 || len(noneTaken) != 32 || len(allTaken) != 32 {
		t.Fatalf("MaxBits %d, and maps of %d and %d blocks", api.MaxBits, len(noneTaken), len(allTaken))
	}
}

// TestNew (8.1): of a new map none is taken.
func TestNew(t *testing.T) {
	wantBlocks(t, "New", New(), noneTaken)
}

// TestByHand (8.1): what can be followed on paper.
func TestByHand(t *testing.T) {
	m := New()
	wantTake(t, m, 3, 0, api.OK, "xxx.............................")
	wantTake(t, m, 5, 3, api.OK, "xxxxxxxx........................")
	wantBack(t, m, 1, 3, api.OK, "x...xxxx........................")
	wantTake(t, m, 4, 8, api.OK, "x...xxxxxxxx....................")
	wantTake(t, m, 2, 1, api.OK, "xxx.xxxxxxxx....................")
	wantTake(t, m, 1, 3, api.OK, "xxxxxxxxxxxx....................")
	wantBack(t, m, 12, 1, api.ErrNone, "xxxxxxxxxxxx....................")
	wantTake(t, m, 21, 0, api.ErrFull, "xxxxxxxxxxxx....................")
	wantTake(t, m, 20, 12, api.OK, allTaken)
	wantTake(t, m, 1, 0, api.ErrFull, allTaken)
	wantBack(t, m, 31, 1, api.OK, "xxxxxxxxxxxxxxxxxxxxxxxxxxxxxxx.")
	wantTake(t, m, 1, 31, api.OK, allTaken)
	wantBack(t, m, 0, 32, api.OK, noneTaken)
}

// TestTakeOfNew (8.1): each count of blocks of a new map, and then all others.
func TestTakeOfNew(t *testing.T) {
	for n := 1; n <= 32; n++ {
		m := New()
		wantTake(t, m, n, 0, api.OK, noneTaken.with(0, n, "x"))
		if n == 32 {
			continue
		}
		wantTake(t, m, 32-n+1, 0, api.ErrFull, noneTaken.with(0, n, "x"))
		wantTake(t, m, 32-n, n, api.OK, allTaken)
	}
}

// TestTakeOneByOne (8.1): blocks are taken from the first one on, until there are none.
func TestTakeOneByOne(t *testing.T) {
	for size := 1; size <= 32; size++ {
		m := New()
		now := noneTaken
		for at := 0; at+size <= 32; at += size {
			now = now.with(at, size, "x")
			wantTake(t, m, size, at, api.OK, now)
		}
		wantTake(t, m, size, 0, api.ErrFull, now)
	}
}

// TestTakeRange (8.1, P1): how many are taken is from 1 to MaxBits; else nothing is told and nothing is taken.
func TestTakeRange(t *testing.T) {
	for _, b := range someBlocks() {
		m := mapOf(t, b)
		for _, n := range noCounts() {
			wantTake(t, m, n, 0, api.ErrRange, b)
		}
	}
}

// TestTakeOfAllTaken (8.1): where all is taken there are none, however many are asked for.
func TestTakeOfAllTaken(t *testing.T) {
	m := mapOf(t, allTaken)
	for n := 1; n <= 32; n++ {
		wantTake(t, m, n, 0, api.ErrFull, allTaken)
	}
}

// TestTakeNotBeside (8.1): as many are free as are asked for, but they are not beside each other; the last block and
// the first one are not either.
func TestTakeNotBeside(t *testing.T) {
	for _, c := range []struct {
		b blocks
		n int
	}{
		{"x.x.x.x.x.x.x.x.x.x.x.x.x.x.x.x.", 2},
		{"x.x.x.x.x.x.x.x.x.x.x.x.x.x.x.x.", 16},
		{".xxxxxxxxxxxxxxxxxxxxxxxxxxxxxx.", 2},
		{"..xxxxxxxxxxxxxxxxxxxxxxxxxxxxx.", 3},
		{"................x...............", 31},
		{"................x...............", 17},
		{".x..............................", 31},
		{"x...............................", 32},
		{"...............................x", 32},
	} {
		wantTake(t, mapOf(t, c.b), c.n, 0, api.ErrFull, c.b)
	}
}

// TestTakeGapTooShort (8.1): a gap that is one too short stands ahead of one that fits just.
func TestTakeGapTooShort(t *testing.T) {
	for n := 2; n <= 15; n++ {
		b := allTaken.with(1, n-1, ".").with(n+2, n, ".")
		wantTake(t, mapOf(t, b), n, n+2, api.OK, b.with(n+2, n, "x"))
		b = allTaken.with(0, n-1, ".").with(32-n, n, ".")
		wantTake(t, mapOf(t, b), n, 32-n, api.OK, b.with(32-n, n, "x"))
	}
}

// TestTakeJustFits (8.1): one gap alone, at each place and of each size: it is taken, its beginning is, and one more
// than it has is not to be had.
func TestTakeJustFits(t *testing.T) {
	for at := range 32 {
		for n := 1; at+n <= 32; n++ {
			b := allTaken.with(at, n, ".")
			wantTake(t, mapOf(t, b), n, at, api.OK, allTaken)
			wantTake(t, mapOf(t, b), 1, at, api.OK, b.with(at, 1, "x"))
			if n < 32 {
				wantTake(t, mapOf(t, b), n+1, 0, api.ErrFull, b)
			}
		}
	}
}

// TestTakeFirstGap (8.1): the first gap that fits is taken, also where a later one fits just, or is longer.
func TestTakeFirstGap(t *testing.T) {
	b := blocks("xx.xx.....xx...xxx........xx...x")
	for n, at := range []int{1: 2, 2: 5, 3: 5, 4: 5, 5: 5, 6: 18, 7: 18, 8: 18} {
		if n > 0 {
			wantTake(t, mapOf(t, b), n, at, api.OK, b.with(at, n, "x"))
		}
	}
	wantTake(t, mapOf(t, b), 9, 0, api.ErrFull, b)
}

// TestBackRangeOfCount (8.1, P1): how many are given back is from 1 to MaxBits, wherever they would begin.
func TestBackRangeOfCount(t *testing.T) {
	for _, b := range someBlocks() {
		m := mapOf(t, b)
		for _, n := range noCounts() {
			for _, at := range []int{0, 1, 15, 31} {
				wantBack(t, m, at, n, api.ErrRange, b)
			}
			for _, at := range noBlocks() {
				wantBack(t, m, at, n, api.ErrRange, b)
			}
		}
	}
}

// TestBackRangeOfPlace (8.1, P1): what is given back begins at a block, also where its end would be one.
func TestBackRangeOfPlace(t *testing.T) {
	for _, b := range someBlocks() {
		m := mapOf(t, b)
		for _, at := range noBlocks() {
			for n := 1; n <= 32; n++ {
				wantBack(t, m, at, n, api.ErrRange, b)
			}
		}
	}
}

// TestBackRangeOfEnd (8.1): from each block on as many are given back as there are, and not one more.
func TestBackRangeOfEnd(t *testing.T) {
	for at := range 32 {
		m := mapOf(t, allTaken)
		for n := 32 - at + 1; n <= 32; n++ {
			wantBack(t, m, at, n, api.ErrRange, allTaken)
		}
		wantBack(t, m, at, 32-at, api.OK, allTaken.with(at, 32-at, "."))
	}
	m := mapOf(t, allTaken)
	wantBack(t, m, 31, 2, api.ErrRange, allTaken)
	wantBack(t, m, 31, 1, api.OK, "xxxxxxxxxxxxxxxxxxxxxxxxxxxxxxx.")
}

// TestBackNotTaken (8.1): one block is not taken, the first, each in the middle or the last one; then none is given back.
func TestBackNotTaken(t *testing.T) {
	for _, c := range []struct{ at, n int }{{0, 1}, {0, 2}, {0, 5}, {0, 32}, {7, 1}, {7, 9}, {27, 5}, {30, 2}, {31, 1}} {
		for i := c.at; i < c.at+c.n; i++ {
			b := allTaken.with(i, 1, ".")
			wantBack(t, mapOf(t, b), c.at, c.n, api.ErrNone, b)
			b = noneTaken.with(c.at, c.n, "x").with(i, 1, ".")
			wantBack(t, mapOf(t, b), c.at, c.n, api.ErrNone, b)
		}
		wantBack(t, mapOf(t, noneTaken), c.at, c.n, api.ErrNone, noneTaken)
	}
}

// TestBackTwice (8.1): what was given back is not taken any more.
func TestBackTwice(t *testing.T) {
	m := mapOf(t, allTaken)
	behind := allTaken.with(4, 6, ".")
	wantBack(t, m, 4, 6, api.OK, behind)
	wantBack(t, m, 4, 6, api.ErrNone, behind)
	wantBack(t, m, 4, 1, api.ErrNone, behind)
	wantBack(t, m, 9, 1, api.ErrNone, behind)
	wantTake(t, m, 6, 4, api.OK, allTaken)
	wantBack(t, m, 4, 6, api.OK, behind)
}

// TestBackPart (8.1): a part of what was taken at once is given back, each part there is; what stands around it stays.
func TestBackPart(t *testing.T) {
	for at := range 10 {
		for n := 1; at+n <= 10; n++ {
			m := New()
			taken := noneTaken.with(0, 10, "x")
			wantTake(t, m, 10, 0, api.OK, taken)
			wantBack(t, m, at, n, api.OK, taken.with(at, n, "."))
		}
	}
}

// TestBackOfTwoCalls (8.1): blocks that were taken by two calls are given back by one, whole and across.
func TestBackOfTwoCalls(t *testing.T) {
	for _, c := range []struct {
		at, n  int
		behind blocks
	}{
		{0, 7, noneTaken},
		{2, 2, "xx..xxx........................."},
		{1, 5, "x.....x........................."},
		{0, 6, "......x........................."},
	} {
		m := New()
		wantTake(t, m, 3, 0, api.OK, "xxx.............................")
		wantTake(t, m, 4, 3, api.OK, "xxxxxxx.........................")
		wantBack(t, m, c.at, c.n, api.OK, c.behind)
	}
}

// TestBackRangeAheadOfNone (8.1, P3): ErrRange is told, also where a block is not taken.
func TestBackRangeAheadOfNone(t *testing.T) {
	m := New()
	for _, n := range noCounts() {
		wantBack(t, m, 0, n, api.ErrRange, noneTaken)
		wantBack(t, m, 31, n, api.ErrRange, noneTaken)
	}
	for _, at := range noBlocks() {
		wantBack(t, m, at, 1, api.ErrRange, noneTaken)
		wantBack(t, m, at, 32, api.ErrRange, noneTaken)
	}
	for at := 1; at < 32; at++ {
		wantBack(t, m, at, 32-at+1, api.ErrRange, noneTaken)
		wantBack(t, m, at, 32-at, api.ErrNone, noneTaken)
	}
}

// TestFreeByHand (8.1): how many are free, and the longest gap at the first block, in the middle and at the last one.
func TestFreeByHand(t *testing.T) {
	for _, c := range []struct {
		b         blocks
		all, most int
	}{
		{noneTaken, 32, 32},
		{allTaken, 0, 0},
		{".....xx...xxxxx....xxxxxxxxx...x", 15, 5},
		{"..xxx...xxx......xxx....xxxx..xx", 17, 6},
		{"...xxxx..xxxxxx..xxxx....x......", 17, 6},
		{".xxxxxxxxxxxxxxxxxxxxxxxxxxxxxxx", 1, 1},
		{"xxxxxxxxxxxxxxxxxxxxxxxxxxxxxxx.", 1, 1},
		{".xxxxxxxxxxxxxxxxxxxxxxxxxxxxxx.", 2, 1},
		{"x.x.x.x.x.x.x.x.x.x.x.x.x.x.x.x.", 16, 1},
		{"x...............................", 31, 31},
		{"...............................x", 31, 31},
		{"...............x................", 31, 16},
	} {
		all, most := mapOf(t, c.b).Free()
		if all != c.all || most != c.most {
			t.Errorf("Free of %s: %d and %d, want %d and %d", c.b, all, most, c.all, c.most)
		}
	}
	if all, most := New().Free(); all != 32 || most != 32 {
		t.Errorf("Free of a new map: %d and %d", all, most)
	}
}

// TestFreeIsToBeHad (8.1): as many as Free tells beside each other can be taken, and not one more.
func TestFreeIsToBeHad(t *testing.T) {
	for _, b := range someBlocks() {
		_, most := mapOf(t, b).Free()
		if most < 32 {
			_, err := mapOf(t, b).Take(most + 1)
			wantError(t, string(b), err, api.ErrFull)
		}
		if most > 0 {
			_, err := mapOf(t, b).Take(most)
			wantError(t, string(b), err, api.OK)
		}
	}
}

// TestHas (8.1): each block where it alone is taken, and where it alone is free.
func TestHas(t *testing.T) {
	for one := range 32 {
		alone, but := mapOf(t, noneTaken.with(one, 1, "x")), mapOf(t, allTaken.with(one, 1, "."))
		for i := range 32 {
			if alone.Has(i) != (i == one) {
				t.Errorf("%d alone is taken: Has(%d) is %v", one, i, alone.Has(i))
			}
			if but.Has(i) != (i != one) {
				t.Errorf("%d alone is free: Has(%d) is %v", one, i, but.Has(i))
			}
		}
	}
}

// TestHasNoBlock (8.1, P1): what is no block is not taken, whatever is.
func TestHasNoBlock(t *testing.T) {
	for _, b := range someBlocks() {
		m := mapOf(t, b)
		for _, i := range noBlocks() {
			if m.Has(i) {
				t.Errorf("%s: Has(%d)", b, i)
			}
		}
		wantBlocks(t, "Has", m, b)
	}
}

// TestAskedAgain (8.1, P2): asking changes nothing.
func TestAskedAgain(t *testing.T) {
	for _, b := range someBlocks() {
		m := mapOf(t, b)
		for range 3 {
			wantBlocks(t, "asked again", m, b)
		}
	}
}

// TestErrorChangesNothing (8.1, P1): behind calls of each error a map answers as one that never had them.
func TestErrorChangesNothing(t *testing.T) {
	b := blocks("xx.xx.....xx...xxx........xx...x")
	for n := 1; n <= 8; n++ {
		m := mapOf(t, b)
		wantTake(t, m, 0, 0, api.ErrRange, b)
		wantTake(t, m, 33, 0, api.ErrRange, b)
		wantTake(t, m, 9, 0, api.ErrFull, b)
		wantBack(t, m, 0, 0, api.ErrRange, b)
		wantBack(t, m, 31, 2, api.ErrRange, b)
		wantBack(t, m, 0, 3, api.ErrNone, b)
		wantBack(t, m, 2, 2, api.ErrNone, b)
		at, no, behind := b.take(n)
		wantTake(t, m, n, at, no, behind)
	}
}

// TestTwoMaps (8.1, P2): what is done to one map is not to be seen in another one.
func TestTwoMaps(t *testing.T) {
	one, two := New(), New()
	wantTake(t, one, 5, 0, api.OK, noneTaken.with(0, 5, "x"))
	wantBlocks(t, "the other one", two, noneTaken)
	wantBack(t, two, 0, 5, api.ErrNone, noneTaken)
	wantTake(t, two, 32, 0, api.OK, allTaken)
	wantBlocks(t, "the first one", one, noneTaken.with(0, 5, "x"))
	wantBack(t, two, 0, 32, api.OK, noneTaken)
	wantTake(t, one, 3, 5, api.OK, noneTaken.with(0, 8, "x"))
	wantBlocks(t, "a third one", New(), noneTaken)
}

// TestAllCalls (8.1): each call on maps with all short rows of blocks, at both edges and between them, where all others
// are taken, and where all others are free.
func TestAllCalls(t *testing.T) {
	const wide = 5
	for _, around := range []blocks{noneTaken, allTaken} {
		for _, low := range []int{0, 14, 32 - wide} {
			for code := range 1 << wide {
				b := around
				for i := range wide {
					b = b.with(low+i, 1, string(".x"[code>>i&1]))
				}
				allCallsOn(t, b)
			}
		}
	}
}

// allCallsOn asks for what comes of each call on a map.
func allCallsOn(t *testing.T, b blocks) {
	t.Helper()
	for n := -1; n <= 34; n++ {
		at, no, behind := b.take(n)
		wantTake(t, mapOf(t, b), n, at, no, behind)
		for at := -1; at <= 33; at++ {
			no, behind := b.back(at, n)
			wantBack(t, mapOf(t, b), at, n, no, behind)
		}
	}
}

// mixer tells numbers in an order that looks mixed, and is the same each time.
type mixer uint32

// below is the next number, from 0 to top - 1.
func (m *mixer) below(top int) int {
	*m = *m*1664525 + 1013904223
	return int(*m>>16) % top
}

// play does many calls to a map, and asks each time for what is told and for all blocks; how many each call takes or
// gives back is at most so many, and now and then any number around those that may be. It counts what was told.
func play(t *testing.T, m *Map, mixed *mixer, steps, most int) (told [8]int) {
	t.Helper()
	now := noneTaken
	for range steps {
		at, n := mixed.below(32), 1+mixed.below(most)
		if mixed.below(10) == 0 {
			at, n = mixed.below(36)-2, mixed.below(36)-1
		}
		var no api.Errno
		if mixed.below(2) == 0 {
			at, no, now = now.take(n)
			wantTake(t, m, n, at, no, now)
		} else {
			no, now = now.back(at, n)
			wantBack(t, m, at, n, no, now)
		}
		told[no]++
	}
	return told
}

// TestPlays (8.1, P1, P2): whole plays of Take and Back, held against a second way, in which all is told that may be.
func TestPlays(t *testing.T) {
	mixed := mixer(8)
	var told [8]int
	for most := 1; most <= 32; most++ {
		for range 10 {
			for no, many := range play(t, New(), &mixed, 200, most) {
				told[no] += many
			}
		}
	}
	for _, no := range []api.Errno{api.OK, api.ErrRange, api.ErrFull, api.ErrNone} {
		if told[no] < 100 {
			t.Errorf("%v was told %d times: the plays are too poor", no, told[no])
		}
	}
}

// TestPlaysBesideEachOther (8.1, P2): two maps are played in turns, each as if it were alone.
func TestPlaysBesideEachOther(t *testing.T) {
	mixed := mixer(81)
	maps := [2]*Map{New(), New()}
	now := [2]blocks{noneTaken, noneTaken}
	for range 5_000 {
		who, n, at := mixed.below(2), 1+mixed.below(5), mixed.below(32)
		var no api.Errno
		if mixed.below(2) == 0 {
			at, no, now[who] = now[who].take(n)
			wantTake(t, maps[who], n, at, no, now[who])
		} else {
			no, now[who] = now[who].back(at, n)
			wantBack(t, maps[who], at, n, no, now[who])
		}
		wantBlocks(t, "the other one", maps[1-who], now[1-who])
	}
}
