package sparse

import (
	"fmt"
	"slices"
	"testing"

	"platterhold/api"
)

// TestBlocksNone (15.1): files into which nothing was written, or of which all was behind a Cut.
func TestBlocksNone(t *testing.T) {
	wantAll(t,
		wanted{nil, "0 [] []"},
		wanted{[]step{cut(30)}, "30 [0*30] []"},
		wanted{[]step{write(20), cut(30), write(5)}, "30 [0*30] []"},
		wanted{[]step{write(0, rising(64)...), cut(0)}, "0 [] []"},
		wanted{[]step{write(0, rising(64)...), cut(0), cut(64)}, "64 [0*64] []"},
	)
}

// TestBlocksWritten (15.1): holes, the first one and the last one, and noughts that were written.
func TestBlocksWritten(t *testing.T) {
	wantAll(t,
		wanted{[]step{write(0, 1), write(63, 2)}, "64 [1 0*62 2] [0 15]"},
		wanted{[]step{write(63, 2), write(0, 1)}, "64 [1 0*62 2] [0 15]"},
		wanted{[]step{write(3, 1), write(12, 2)}, "13 [0 0 0 1 0*8 2] [0 3]"},
		wanted{[]step{write(3, 1, 2), write(11, 3, 4)}, "13 [0 0 0 1 2 0*6 3 4] [0 1 2 3]"},
		wanted{[]step{write(44, 1), write(8, 2), write(29, 3), write(4, 4)}, "45 [0*4 4 0 0 0 2 0*20 3 0*14 1] [1 2 7 11]"},
		wanted{[]step{write(5, 0)}, "6 [0*6] [1]"},
		wanted{[]step{write(3, 0, 0)}, "5 [0*5] [0 1]"},
		wanted{[]step{cut(20), write(9, 0, 0, 0, 0)}, "20 [0*20] [2 3]"},
		wanted{[]step{write(4, 1, 2, 3, 4), write(4, 0, 0, 0, 0)}, "8 [0*8] [1]"},
		wanted{[]step{write(0, make([]int, 64)...)}, "64 [0*64] [0 1 2 3 4 5 6 7 8 9 10 11 12 13 14 15]"},
	)
}

// TestBlocksCut (15.1): blocks of which a part was cut, of which all was cut, and which were written anew since.
func TestBlocksCut(t *testing.T) {
	three := write(0, rising(12)...)
	wantAll(t,
		wanted{[]step{three, cut(9)}, "9 [1 2 3 4 5 6 7 8 9] [0 1 2]"},
		wanted{[]step{three, cut(8)}, "8 [1 2 3 4 5 6 7 8] [0 1]"},
		wanted{[]step{three, cut(8), cut(12)}, "12 [1 2 3 4 5 6 7 8 0*4] [0 1]"},
		wanted{[]step{three, cut(4), write(8, 7)}, "9 [1 2 3 4 0*4 7] [0 2]"},
		wanted{[]step{three, cut(4), write(8, 7), write(7, 6)}, "9 [1 2 3 4 0 0 0 6 7] [0 1 2]"},
		wanted{[]step{three, cut(0), write(5, 0)}, "6 [0*6] [1]"},
		wanted{[]step{three, cut(0), cut(12), write(11, 0)}, "12 [0*12] [2]"},
		wanted{[]step{three, write(20, 9), cut(21)}, "21 [1 2 3 4 5 6 7 8 9 10 11 12 0*8 9] [0 1 2 5]"},
		wanted{[]step{three, write(20, 9), cut(20)}, "20 [1 2 3 4 5 6 7 8 9 10 11 12 0*8] [0 1 2]"},
	)
}

// TestBlocksPartCut (15.1): a block stays where a part of it was not behind the Cut, also if no byte that was written into
// it is left, and however often it is cut.
func TestBlocksPartCut(t *testing.T) {
	wantAll(t,
		wanted{[]step{write(6, 7, 8), cut(7)}, "7 [0*6 7] [1]"},
		wanted{[]step{write(6, 7, 8), cut(6)}, "6 [0*6] [1]"},
		wanted{[]step{write(6, 7, 8), cut(5)}, "5 [0*5] [1]"},
		wanted{[]step{write(6, 7, 8), cut(6), cut(8)}, "8 [0*8] [1]"},
		wanted{[]step{write(6, 7, 8), cut(6), cut(5), cut(64), cut(5)}, "5 [0*5] [1]"},
		wanted{[]step{write(6, 7, 8), cut(4)}, "4 [0*4] []"},
		wanted{[]step{write(6, 7, 8), cut(5), cut(4), cut(8)}, "8 [0*8] []"},
		wanted{[]step{write(3, 9), cut(1)}, "1 [0] [0]"},
		wanted{[]step{write(3, 9), cut(0)}, "0 [] []"},
		wanted{[]step{write(63, 9), cut(61)}, "61 [0*61] [15]"},
	)
}

// TestBlocksEach (15.1): a byte at each place of a file, cut to each size.
func TestBlocksEach(t *testing.T) {
	for at := range 64 {
		for size := range 65 {
			f := fileOf(t, write(at, 9), cut(size))
			var want []int
			if at/4*4 < size {
				want = []int{at / 4}
			}
			if got := f.Blocks(); !slices.Equal(got, want) {
				t.Errorf("a byte at %d, cut to %d: got %v, want %v", at, size, got, want)
			}
		}
	}
}

// TestBlocksAreTheCallers (15.1, P2): what Blocks told may be changed, as far as its memory goes, and stays as it is.
func TestBlocksAreTheCallers(t *testing.T) {
	for _, steps := range someFiles() {
		f := fileOf(t, steps...)
		want := shown(f)
		first, second := f.Blocks(), f.Blocks()
		was := fmt.Sprint(second)
		first = first[:cap(first)]
		for i := range first {
			first[i] = 99
		}
		wantFile(t, "what Blocks told was changed", f, want)
		wantStep(t, f, write(3, 5, 5), api.OK)
		wantStep(t, f, cut(1), api.OK)
		if got := fmt.Sprint(second); got != was {
			t.Errorf("%v: what Blocks told was %s, and is %s", steps, was, got)
		}
	}
}
