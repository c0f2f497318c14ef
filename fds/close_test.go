package fds

import (
	"fmt"
	"testing"

	"platterhold/api"
)

// TestCloseEach (14.1): each number, when all are given; and the same one twice.
func TestCloseEach(t *testing.T) {
	for fd, want := range []string{
		"35:4/10 17:20/20 2:0/30 4:0/0 6:33/64", "035:4/10 7:20/20 2:0/30 4:0/0 6:33/64", "035:4/10 17:20/20 4:0/0 6:33/64",
		"05:4/10 17:20/20 2:0/30 4:0/0 6:33/64", "035:4/10 17:20/20 2:0/30 6:33/64", "03:4/10 17:20/20 2:0/30 4:0/0 6:33/64",
		"035:4/10 17:20/20 2:0/30 4:0/0", "035:4/10 1:20/20 2:0/30 4:0/0 6:33/64",
	} {
		table := allGiven(t)
		wantClose(t, table, fd, api.OK)
		wantTable(t, fmt.Sprintf("Close(%d)", fd), table, want)
		wantClose(t, table, fd, api.ErrNone)
		wantMove(t, table, fd, 0, 0, api.ErrNone)
		wantTable(t, fmt.Sprintf("Close(%d) twice", fd), table, want)
	}
}

// TestCloseNoNumber (14.1, P1): what is no number.
func TestCloseNoNumber(t *testing.T) {
	for _, fd := range noNumbers() {
		table := New()
		wantClose(t, table, fd, api.ErrRange)
		wantTable(t, "new", table, "")
		table = allGiven(t)
		wantClose(t, table, fd, api.ErrRange)
		wantTable(t, "all given", table, allGivenText)
	}
}

// TestCloseOneOfTwo (14.1): the other one keeps the place, and can still be moved, whichever is closed.
func TestCloseOneOfTwo(t *testing.T) {
	for closed := range 2 {
		other := 1 - closed
		table := withOpen(t, 10)
		wantDup(t, table, 0, 1, api.OK)
		wantMove(t, table, closed, 6, 6, api.OK)
		wantClose(t, table, closed, api.OK)
		if table.At(closed) != -1 || table.At(other) != 6 {
			t.Errorf("%d is at %d and %d at %d, want -1 and 6", closed, table.At(closed), other, table.At(other))
		}
		wantMove(t, table, other, 4, 10, api.OK)
		wantMove(t, table, other, 1, 0, api.ErrRange)
		wantMove(t, table, other, -7, 3, api.OK)
		wantTable(t, "one is closed", table, fmt.Sprintf("%d:3/10", other))
		wantDup(t, table, other, closed, api.OK)
		wantTable(t, "shared again", table, "01:3/10")
	}
}

// TestCloseAll (14.1): all numbers of one file, in each order of three.
func TestCloseAll(t *testing.T) {
	inOrders(3, func(closed []int) {
		table := withOpen(t, 9)
		for fd := 1; fd < 8; fd++ {
			wantDup(t, table, fd-1, fd, api.OK)
		}
		wantMove(t, table, 4, 5, 5, api.OK)
		for fd := range 8 {
			if fd != closed[0] && fd != closed[1] && fd != closed[2] {
				wantClose(t, table, fd, api.OK)
			}
		}
		for i, fd := range closed {
			wantMove(t, table, fd, 1, 6+i, api.OK)
			wantClose(t, table, fd, api.OK)
		}
		wantTable(t, fmt.Sprint(closed), table, "")
		wantOpen(t, table, 9, 0, api.OK)
		wantTable(t, fmt.Sprint(closed), table, "0:0/9")
	})
}

// TestGivenAgain (14.1): a number that is given again behind Close begins at place 0 and shares nothing of what it had.
func TestGivenAgain(t *testing.T) {
	table := withOpen(t, 10)
	wantMove(t, table, 0, 7, 7, api.OK)
	wantClose(t, table, 0, api.OK)
	wantOpen(t, table, 5, 0, api.OK)
	wantTable(t, "alone", table, "0:0/5")

	for closed := range 3 {
		table := withOpen(t, 10)
		wantDup(t, table, 0, 1, api.OK)
		wantDup(t, table, 0, 2, api.OK)
		wantMove(t, table, closed, 7, 7, api.OK)
		wantClose(t, table, closed, api.OK)
		wantOpen(t, table, 10, closed, api.OK)
		want := []string{"0:0/10 12:7/10", "02:7/10 1:0/10", "01:7/10 2:0/10"}[closed]
		wantTable(t, fmt.Sprintf("%d of three that were one", closed), table, want)
	}
}

// TestDupGivenAgain (14.1): a number that is given again by Dup has what the other one has, not what it had.
func TestDupGivenAgain(t *testing.T) {
	table := withOpen(t, 10, 20)
	wantDup(t, table, 0, 2, api.OK)
	wantMove(t, table, 0, 3, 3, api.OK)
	wantMove(t, table, 1, 15, 15, api.OK)
	wantClose(t, table, 0, api.OK)
	wantDup(t, table, 1, 0, api.OK)
	wantTable(t, "Dup", table, "01:15/20 2:3/10")
	wantClose(t, table, 1, api.OK)
	wantDup(t, table, 2, 1, api.OK)
	wantTable(t, "Dup", table, "0:15/20 12:3/10")
}
