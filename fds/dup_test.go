package fds

import (
	"fmt"
	"testing"

	"platterhold/api"
)

// TestDupEach (14.1): of each number that is open, of which the file is at the same place.
func TestDupEach(t *testing.T) {
	for many := 1; many <= 7; many++ {
		for fd := range many {
			table := withOpen(t, []int{10, 20, 30, 40, 50, 60, 64}[:many]...)
			wantMove(t, table, fd, fd+1, fd+1, api.OK)
			wantDup(t, table, fd, many, api.OK)
			want := ""
			for other := range many {
				size := min(10*(other+1), 64)
				if other == fd {
					want += fmt.Sprintf("%d%d:%d/%d ", fd, many, fd+1, size)
				} else {
					want += fmt.Sprintf("%d:0/%d ", other, size)
				}
			}
			wantTable(t, fmt.Sprintf("Dup(%d) of %d", fd, many), table, want)
		}
	}
}

// TestDupNone (14.1): of numbers at which nothing is open, also not any more.
func TestDupNone(t *testing.T) {
	table := withOpen(t, 10, 20, 30)
	for fd := 3; fd < 8; fd++ {
		wantDup(t, table, fd, 0, api.ErrNone)
	}
	wantClose(t, table, 1, api.OK)
	wantDup(t, table, 1, 0, api.ErrNone)
	wantTable(t, "none", table, "0:0/10 2:0/30")
	wantDup(t, table, 2, 1, api.OK)
	wantTable(t, "Dup", table, "0:0/10 12:0/30")
}

// TestDupNoNumber (14.1, P1, P3): of what is no number, also where none is free.
func TestDupNoNumber(t *testing.T) {
	for _, fd := range noNumbers() {
		table := New()
		wantDup(t, table, fd, 0, api.ErrRange)
		wantTable(t, "new", table, "")
		table = withOpen(t, 10, 20)
		wantDup(t, table, fd, 0, api.ErrRange)
		wantTable(t, "two", table, "0:0/10 1:0/20")
		table = allGiven(t)
		wantDup(t, table, fd, 0, api.ErrRange)
		wantTable(t, "all given", table, allGivenText)
	}
}

// TestDupFull (14.1): of each number, when all are given.
func TestDupFull(t *testing.T) {
	table := allGiven(t)
	for fd := range 8 {
		wantDup(t, table, fd, 0, api.ErrFull)
	}
	wantTable(t, "all given", table, allGivenText)
	wantClose(t, table, 6, api.OK)
	wantDup(t, table, 6, 0, api.ErrNone)
	wantDup(t, table, 7, 6, api.OK)
	wantTable(t, "one was free", table, "035:4/10 167:20/20 2:0/30 4:0/0")
}

// TestDupOne (14.1): all numbers of one file, by a Dup of the first one, or of the last one each time.
func TestDupOne(t *testing.T) {
	for _, last := range []bool{false, true} {
		table := withOpen(t, 40)
		for fd := 1; fd < 8; fd++ {
			from := 0
			if last {
				from = fd - 1
			}
			wantMove(t, table, from, 3, 3*fd, api.OK)
			wantDup(t, table, from, fd, api.OK)
			wantTable(t, "Dup", table, fmt.Sprintf("%s:%d/40", "01234567"[:fd+1], 3*fd))
		}
		wantDup(t, table, 7, 0, api.ErrFull)
	}
}

// TestDupOfDup (14.1): two and three numbers of one file, of which each moves all.
func TestDupOfDup(t *testing.T) {
	table := withOpen(t, 10)
	wantDup(t, table, 0, 1, api.OK)
	wantMove(t, table, 0, 2, 2, api.OK)
	wantPlaces(t, "the first of two", table, 2, 2)
	wantMove(t, table, 1, 3, 5, api.OK)
	wantPlaces(t, "the second of two", table, 5, 5)
	wantDup(t, table, 1, 2, api.OK)
	wantPlaces(t, "a Dup of a Dup", table, 5, 5, 5)
	wantMove(t, table, 2, 5, 10, api.OK)
	wantPlaces(t, "the third one", table, 10, 10, 10)
	wantMove(t, table, 0, 1, 0, api.ErrRange)
	wantMove(t, table, 1, -9, 1, api.OK)
	wantPlaces(t, "the second one", table, 1, 1, 1)
	wantMove(t, table, 2, -2, 0, api.ErrRange)
	wantMove(t, table, 0, -1, 0, api.OK)
	wantPlaces(t, "the first one", table, 0, 0, 0)
}

// TestOpenedTwice (14.1): files that were opened each for itself have places of their own, also of one size.
func TestOpenedTwice(t *testing.T) {
	table := withOpen(t, 10, 10, 10)
	wantMove(t, table, 0, 4, 4, api.OK)
	wantPlaces(t, "the first one", table, 4, 0, 0)
	wantMove(t, table, 2, 10, 10, api.OK)
	wantPlaces(t, "the third one", table, 4, 0, 10)
	wantMove(t, table, 1, 4, 4, api.OK)
	wantDup(t, table, 1, 3, api.OK)
	wantTable(t, "at one place by chance", table, "0:4/10 13:4/10 2:10/10")
	wantMove(t, table, 3, 1, 5, api.OK)
	wantPlaces(t, "one that is shared", table, 4, 5, 10, 5)
}
