package fds

import (
	"fmt"
	"math"
	"slices"
	"testing"

	"platterhold/api"
	"platterhold/plain"
)

// wantError asks for an error, for which nil alone stands for none.
func wantError(t *testing.T, what string, err error, want api.Errno) {
	t.Helper()
	if told := plain.Told(err); told != want {
		t.Errorf("%s: error %v, want %v", what, told, want)
	}
	if (err == nil) != (want == api.OK) {
		t.Errorf("%s: error is nil: %v, want %v", what, err == nil, want == api.OK)
	}
}

// places are what At tells of all numbers, and of one beyond each end.
func places(table *Table) [10]int {
	var all [10]int
	for i := range all {
		all[i] = table.At(i - 1)
	}
	return all
}

// wantPlaces asks for the places of the numbers from 0 on; all others have none.
func wantPlaces(t *testing.T, what string, table *Table, want ...int) {
	t.Helper()
	all := [10]int{-1, -1, -1, -1, -1, -1, -1, -1, -1, -1}
	copy(all[1:9], want)
	if got := places(table); got != all {
		t.Errorf("%s: from number -1 on the places are %v, want %v", what, got, all)
	}
}

// wantCall makes a call, and asks for what it answers; behind an error each place is as it was.
func wantCall(t *testing.T, table *Table, s step, want int, wantNo api.Errno) {
	t.Helper()
	was := places(table)
	got, err := s.on(table)
	wantError(t, s.String(), err, wantNo)
	if got != want {
		t.Errorf("%s: got %d, want %d", s, got, want)
	}
	if now := places(table); wantNo != api.OK && now != was {
		t.Errorf("%s: from number -1 on the places were %v, and are %v", s, was, now)
	}
}

// wantOpen opens, and asks for what comes of it.
func wantOpen(t *testing.T, table *Table, size, want int, wantNo api.Errno) {
	t.Helper()
	wantCall(t, table, step{call: "Open", n: size}, want, wantNo)
}

// wantDup dups, and asks for what comes of it.
func wantDup(t *testing.T, table *Table, fd, want int, wantNo api.Errno) {
	t.Helper()
	wantCall(t, table, step{call: "Dup", n: fd}, want, wantNo)
}

// wantClose closes, and asks for what comes of it.
func wantClose(t *testing.T, table *Table, fd int, wantNo api.Errno) {
	t.Helper()
	wantCall(t, table, step{call: "Close", n: fd}, 0, wantNo)
}

// wantMove moves, and asks for what comes of it.
func wantMove(t *testing.T, table *Table, fd, by, want int, wantNo api.Errno) {
	t.Helper()
	wantCall(t, table, step{"Move", fd, by}, want, wantNo)
}

// withOpen is a table with files of some sizes.
func withOpen(t *testing.T, sizes ...int) *Table {
	t.Helper()
	table := New()
	for fd, size := range sizes {
		wantOpen(t, table, size, fd, api.OK)
	}
	return table
}

// allGiven is a table in which all numbers are given: 0, 3 and 5 are one file, 1 and 7 another one, and 2, 4 and 6 are
// alone.
func allGiven(t *testing.T) *Table {
	t.Helper()
	table := withOpen(t, 10, 20, 30)
	wantDup(t, table, 0, 3, api.OK)
	wantOpen(t, table, 0, 4, api.OK)
	wantDup(t, table, 3, 5, api.OK)
	wantOpen(t, table, 64, 6, api.OK)
	wantDup(t, table, 1, 7, api.OK)
	wantMove(t, table, 5, 4, 4, api.OK)
	wantMove(t, table, 1, 20, 20, api.OK)
	wantMove(t, table, 6, 33, 33, api.OK)
	return table
}

// allGivenText is what allGiven has.
const allGivenText = "035:4/10 17:20/20 2:0/30 4:0/0 6:33/64"

// noNumbers are such as no file can have, just outside and far off, also such as end in fit bits.
func noNumbers() []int {
	return []int{
		-1, 8, -2, 9, -7, -8, -9, 15, 16, 64, 100, 256, 257, 1 << 32, 1<<32 + 1, 1<<32 + 7, -1 << 32, -1<<32 + 3,
		1 << 62, 1<<62 + 5, -1 << 62, math.MinInt32, math.MaxInt32, math.MinInt, math.MinInt + 1, math.MinInt + 7,
		math.MinInt + 8, math.MaxInt - 8, math.MaxInt - 7, math.MaxInt - 1, math.MaxInt,
	}
}

// noSizes are such as no file can have.
func noSizes() []int {
	return []int{
		-1, 65, -2, 66, -63, -64, -65, 100, 127, 128, 129, 256, 257, 1 << 32, 1<<32 + 1, 1<<32 + 64, -1 << 32, -1<<32 + 9,
		1 << 62, 1<<62 + 64, -1 << 62, math.MinInt32, math.MaxInt32, math.MinInt, math.MinInt + 1, math.MinInt + 64,
		math.MaxInt - 64, math.MaxInt - 1, math.MaxInt,
	}
}

// inOrders gives each list of so many different numbers, in each order, to a visit.
func inOrders(many int, visit func(fds []int), ahead ...int) {
	if len(ahead) == many {
		visit(slices.Clone(ahead))
		return
	}
	for fd := range 8 {
		if !slices.Contains(ahead, fd) {
			inOrders(many, visit, append(slices.Clone(ahead), fd)...)
		}
	}
}

// TestNumbers (14.1, P3): the numbers that bound things, which the tests here write out.
func TestNumbers(t *testing.T) {
	if api.MaxOpen != 8 || api.MaxSize != 64 {
		t.Fatalf("MaxOpen %d, MaxSize %d", api.MaxOpen, api.MaxSize)
	}
}

// TestNew (14.1): nothing is open, so that no number can be asked for anything.
func TestNew(t *testing.T) {
	table := New()
	wantTable(t, "new", table, "")
	for fd := range 8 {
		wantDup(t, table, fd, 0, api.ErrNone)
		wantClose(t, table, fd, api.ErrNone)
		wantMove(t, table, fd, 0, 0, api.ErrNone)
	}
	wantOpen(t, table, 5, 0, api.OK)
	wantTable(t, "new", table, "0:0/5")
}

// TestByHand (14.1): what can be followed on paper.
func TestByHand(t *testing.T) {
	table := New()
	wantOpen(t, table, 10, 0, api.OK)
	wantOpen(t, table, 5, 1, api.OK)
	wantMove(t, table, 0, 4, 4, api.OK)
	wantDup(t, table, 0, 2, api.OK)
	wantPlaces(t, "Dup", table, 4, 0, 4)
	wantMove(t, table, 2, 5, 9, api.OK)
	wantMove(t, table, 1, 3, 3, api.OK)
	wantPlaces(t, "Move", table, 9, 3, 9)
	wantMove(t, table, 0, 2, 0, api.ErrRange)
	wantMove(t, table, 1, -4, 0, api.ErrRange)
	wantClose(t, table, 0, api.OK)
	wantPlaces(t, "Close", table, -1, 3, 9)
	wantOpen(t, table, 7, 0, api.OK)
	wantPlaces(t, "Open", table, 0, 3, 9)
	wantMove(t, table, 2, -9, 0, api.OK)
	wantMove(t, table, 0, 7, 7, api.OK)
	wantPlaces(t, "Move", table, 7, 3, 0)
	wantTable(t, "all", table, "0:7/7 1:3/5 2:0/10")
}

// TestOpenEachSize (14.1): each size that a file can have, at place 0, and as far as it can be moved.
func TestOpenEachSize(t *testing.T) {
	for size := range 65 {
		table := withOpen(t, size)
		wantTable(t, fmt.Sprint("Open of ", size), table, fmt.Sprint("0:0/", size))
	}
}

// TestOpenNoSize (14.1, P1, P3): sizes that no file can have give no number, also where none is free.
func TestOpenNoSize(t *testing.T) {
	for _, size := range noSizes() {
		table := New()
		wantOpen(t, table, size, 0, api.ErrRange)
		wantTable(t, "new", table, "")
		wantOpen(t, table, 64, 0, api.OK)
		table = allGiven(t)
		wantOpen(t, table, size, 0, api.ErrRange)
		wantTable(t, "all given", table, allGivenText)
	}
}

// TestOpenAll (14.1): as many numbers as there are, rising, and one more, of each size.
func TestOpenAll(t *testing.T) {
	table := withOpen(t, 1, 2, 0, 64, 63, 1, 2, 8)
	all := "0:0/1 1:0/2 2:0/0 3:0/64 4:0/63 5:0/1 6:0/2 7:0/8"
	wantTable(t, "all given", table, all)
	for size := range 65 {
		wantOpen(t, table, size, 0, api.ErrFull)
	}
	wantTable(t, "one more", table, all)
}

// TestLeastFree (14.1): which numbers are given, when up to four were closed, in each order: the least first, by Open
// and by Dup, until there is none.
func TestLeastFree(t *testing.T) {
	for many := 1; many <= 4; many++ {
		inOrders(many, func(closed []int) {
			opening, duping := allGiven(t), allGiven(t)
			for _, fd := range closed {
				wantClose(t, opening, fd, api.OK)
				wantClose(t, duping, fd, api.OK)
			}
			left := 0
			for slices.Contains(closed, left) {
				left++
			}
			for _, fd := range slices.Sorted(slices.Values(closed)) {
				wantOpen(t, opening, 9, fd, api.OK)
				wantDup(t, duping, left, fd, api.OK)
			}
			wantOpen(t, opening, 9, 0, api.ErrFull)
			wantDup(t, duping, left, 0, api.ErrFull)
			if t.Failed() {
				t.Fatalf("%v were closed", closed)
			}
		})
	}
}

// TestLeastFreeOneByOne (14.1): a number that is given is not free, whichever number is closed behind it.
func TestLeastFreeOneByOne(t *testing.T) {
	table := withOpen(t, 1, 2, 3)
	for _, fd := range []int{1, 0, 2} {
		wantClose(t, table, fd, api.OK)
		wantOpen(t, table, 4, fd, api.OK)
	}
	wantClose(t, table, 2, api.OK)
	wantClose(t, table, 0, api.OK)
	wantOpen(t, table, 5, 0, api.OK)
	wantOpen(t, table, 6, 2, api.OK)
	wantOpen(t, table, 7, 3, api.OK)
	wantTable(t, "given again", table, "0:0/5 1:0/4 2:0/6 3:0/7")
}

// TestManyTimes (14.1, P1): numbers are given as often as one likes.
func TestManyTimes(t *testing.T) {
	table := withOpen(t, 3)
	for i := range 20_000 {
		wantOpen(t, table, i%65, 1, api.OK)
		wantDup(t, table, i%2, 2, api.OK)
		wantClose(t, table, 1, api.OK)
		wantMove(t, table, 2, 0, 0, api.OK)
		wantClose(t, table, 2, api.OK)
	}
	wantTable(t, "many times", table, "0:0/3")
}

// TestAt (14.1, P1): each number, whether something is open there or not, and such as are none.
func TestAt(t *testing.T) {
	table := withOpen(t, 10, 20, 30, 40)
	wantMove(t, table, 1, 20, 20, api.OK)
	wantMove(t, table, 3, 7, 7, api.OK)
	wantClose(t, table, 2, api.OK)
	wantPlaces(t, "some are open", table, 0, 20, -1, 7)
	full := allGiven(t)
	wantPlaces(t, "all are given", full, 4, 20, 0, 4, 0, 4, 33, 20)
	for _, fd := range noNumbers() {
		for i, one := range []*Table{New(), table, full} {
			if got := one.At(fd); got != -1 {
				t.Errorf("table %d: At(%d): got %d, want -1", i, fd, got)
			}
		}
	}
}

// TestAtChangesNothing (14.1, P1): At moves nothing, however often it is asked.
func TestAtChangesNothing(t *testing.T) {
	table := allGiven(t)
	for range 100 {
		wantPlaces(t, "At", table, 4, 20, 0, 4, 0, 4, 33, 20)
	}
	wantTable(t, "At", table, allGivenText)
}

// TestTables (14.1, P2): two tables share nothing, whichever one was made first.
func TestTables(t *testing.T) {
	one, other := New(), New()
	wantOpen(t, one, 10, 0, api.OK)
	wantTable(t, "the other one", other, "")
	wantOpen(t, other, 20, 0, api.OK)
	wantDup(t, other, 0, 1, api.OK)
	wantMove(t, other, 1, 15, 15, api.OK)
	wantTable(t, "one", one, "0:0/10")
	wantMove(t, one, 0, 6, 6, api.OK)
	wantTable(t, "the other one", other, "01:15/20")
	wantClose(t, one, 0, api.OK)
	wantTable(t, "the other one", other, "01:15/20")
	wantTable(t, "a new one", New(), "")
}
