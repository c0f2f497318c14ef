package fds

import (
	"fmt"
	"math"
	"testing"

	"platterhold/api"
)

// farBy are moves that no file is big enough for, also such as end in fit bits, or wrap round where they are reckoned with.
func farBy() []int {
	return []int{
		65, -65, 128, -128, 256, -256, 257, 1 << 32, 1<<32 + 1, 1<<32 - 1, -1 << 32, -1<<32 + 1, -1<<32 - 1, 1 << 62, -1 << 62,
		math.MinInt32, math.MaxInt32, math.MinInt, math.MinInt + 1, math.MinInt + 5, math.MinInt + 64,
		math.MaxInt - 64, math.MaxInt - 5, math.MaxInt - 1, math.MaxInt,
	}
}

// TestMoveAll (14.1): from each place of a file of each size to each place, and beyond both ends.
func TestMoveAll(t *testing.T) {
	for size := range 65 {
		table := withOpen(t, size)
		for from := range size + 1 {
			wantMove(t, table, 0, from-table.At(0), from, api.OK)
			for to := range size + 1 {
				wantMove(t, table, 0, to-from, to, api.OK)
				wantMove(t, table, 0, from-to, from, api.OK)
			}
			for beyond := 1; beyond <= 3; beyond++ {
				wantMove(t, table, 0, size-from+beyond, 0, api.ErrRange)
				wantMove(t, table, 0, -from-beyond, 0, api.ErrRange)
			}
		}
	}
}

// TestMoveByNought (14.1): by 0, at each place, tells it.
func TestMoveByNought(t *testing.T) {
	table := withOpen(t, 64)
	wantMove(t, table, 0, 0, 0, api.OK)
	for place := 1; place <= 64; place++ {
		wantMove(t, table, 0, 1, place, api.OK)
		wantMove(t, table, 0, 0, place, api.OK)
	}
	wantMove(t, table, 0, 1, 0, api.ErrRange)
	wantMove(t, table, 0, 0, 64, api.OK)
}

// TestMoveUpAndBack (14.1): up to the size, back to 0, and one beyond each end.
func TestMoveUpAndBack(t *testing.T) {
	for _, size := range []int{1, 2, 10, 63, 64} {
		table := withOpen(t, 5, size)
		wantMove(t, table, 1, -1, 0, api.ErrRange)
		wantMove(t, table, 1, size+1, 0, api.ErrRange)
		wantMove(t, table, 1, size, size, api.OK)
		wantMove(t, table, 1, 1, 0, api.ErrRange)
		wantMove(t, table, 1, -size-1, 0, api.ErrRange)
		wantMove(t, table, 1, -size, 0, api.OK)
		wantMove(t, table, 1, -1, 0, api.ErrRange)
		wantTable(t, fmt.Sprint("size ", size), table, fmt.Sprintf("0:0/5 1:0/%d", size))
	}
}

// TestMoveFar (14.1, P1): by far too many, from each place, also where a sum would pass what an int holds.
func TestMoveFar(t *testing.T) {
	for _, size := range []int{0, 1, 5, 64} {
		table := withOpen(t, size)
		for place := range size + 1 {
			wantMove(t, table, 0, place-table.At(0), place, api.OK)
			for _, by := range farBy() {
				wantMove(t, table, 0, by, 0, api.ErrRange)
			}
			for beyond := range 70 {
				wantMove(t, table, 0, math.MaxInt-beyond, 0, api.ErrRange)
				wantMove(t, table, 0, math.MinInt+beyond, 0, api.ErrRange)
			}
		}
		wantTable(t, "far", table, fmt.Sprintf("0:%d/%d", size, size))
	}
}

// TestMoveNoSize (14.1): a file of size 0 stays where it is.
func TestMoveNoSize(t *testing.T) {
	table := withOpen(t, 0)
	wantMove(t, table, 0, 0, 0, api.OK)
	wantMove(t, table, 0, 1, 0, api.ErrRange)
	wantMove(t, table, 0, -1, 0, api.ErrRange)
	wantDup(t, table, 0, 1, api.OK)
	wantMove(t, table, 1, 0, 0, api.OK)
	wantMove(t, table, 1, 1, 0, api.ErrRange)
	wantPlaces(t, "size 0", table, 0, 0)
}

// TestMoveNone (14.1, P3): where nothing is open, ErrNone is told whatever it is moved by.
func TestMoveNone(t *testing.T) {
	table := withOpen(t, 10, 20, 30)
	wantMove(t, table, 1, 20, 20, api.OK)
	wantClose(t, table, 1, api.OK)
	for _, fd := range []int{1, 3, 4, 5, 6, 7} {
		for _, by := range append(farBy(), 0, 1, -1, 10, 64) {
			wantMove(t, table, fd, by, 0, api.ErrNone)
		}
	}
	wantTable(t, "none", table, "0:0/10 2:0/30")
}

// TestMoveNoNumber (14.1, P1): what is no number, whatever it is moved by.
func TestMoveNoNumber(t *testing.T) {
	tables := map[string]*Table{"": New(), "0:0/10": withOpen(t, 10), allGivenText: allGiven(t)}
	for want, table := range tables {
		for _, fd := range noNumbers() {
			for _, by := range append(farBy(), 0, 1, -1, 10, 64) {
				wantMove(t, table, fd, by, 0, api.ErrRange)
			}
		}
		wantTable(t, "no number", table, want)
	}
}

// TestMoveEach (14.1): each number moves what it has, and nothing else.
func TestMoveEach(t *testing.T) {
	for fd, want := range []string{
		"035:5/10 17:20/20 2:0/30 4:0/0 6:33/64", "035:4/10 17:19/20 2:0/30 4:0/0 6:33/64",
		"035:4/10 17:20/20 2:30/30 4:0/0 6:33/64", "035:0/10 17:20/20 2:0/30 4:0/0 6:33/64",
		allGivenText, "035:10/10 17:20/20 2:0/30 4:0/0 6:33/64",
		"035:4/10 17:20/20 2:0/30 4:0/0 6:64/64", "035:4/10 17:0/20 2:0/30 4:0/0 6:33/64",
	} {
		table := allGiven(t)
		by := []int{1, -1, 30, -4, 0, 6, 31, -20}[fd]
		wantMove(t, table, fd, by, table.At(fd)+by, api.OK)
		wantTable(t, fmt.Sprintf("Move(%d, %d)", fd, by), table, want)
	}
}
