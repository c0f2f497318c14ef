package sparse

import (
	"fmt"
	"testing"

	"platterhold/api"
)

// blocksUpTo are all blocks that begin ahead of a place.
func blocksUpTo(place int) []int {
	var all []int
	for i := 0; 4*i < place; i++ {
		all = append(all, i)
	}
	return all
}

// filled are so many bytes, of which the first ones rise, and the others are 0.
func filled(first, size int) []int {
	return append(rising(first), make([]int, size-first)...)
}

// TestCutEach (15.1): files of each size, cut to each size.
func TestCutEach(t *testing.T) {
	for was := range 65 {
		for size := range 65 {
			left := min(was, size)
			f := fileOf(t, write(0, rising(was)...), cut(size))
			wantFile(t, fmt.Sprintf("%d bytes, cut to %d", was, size), f, text(size, filled(left, size), blocksUpTo(left)))
		}
	}
}

// TestCutTwice (15.1): to each size, and then to each size, where what is gone does not come back.
func TestCutTwice(t *testing.T) {
	for first := range 65 {
		for second := range 65 {
			left := min(first, second)
			f := fileOf(t, write(0, rising(64)...), cut(first), cut(second))
			wantFile(t, fmt.Sprintf("cut to %d and to %d", first, second), f, text(second, filled(left, second), blocksUpTo(left)))
			wantStep(t, f, cut(64), api.OK)
			wantFile(t, fmt.Sprintf("cut to %d, %d and 64", first, second), f, text(64, filled(left, 64), blocksUpTo(left)))
		}
	}
}

// TestCutAndWrite (15.1): a byte behind the cut makes the file longer, and what is gone is 0.
func TestCutAndWrite(t *testing.T) {
	for size := range 64 {
		for at := size; at < 64; at++ {
			f := fileOf(t, write(0, rising(64)...), cut(size), write(at, 200))
			blocks := blocksUpTo(size)
			if len(blocks) <= at/4 {
				blocks = append(blocks, at/4)
			}
			wantFile(t, fmt.Sprintf("cut to %d, and a byte at %d", size, at), f, text(at+1, append(filled(size, at), 200), blocks))
		}
	}
}

// TestCutSame (15.1): to the size that it has changes nothing, also not what stands there later.
func TestCutSame(t *testing.T) {
	for _, steps := range someFiles() {
		f := fileOf(t, steps...)
		want := shown(f)
		for range 3 {
			wantStep(t, f, cut(f.Size()), api.OK)
			wantFile(t, fmt.Sprint(steps, "cut to its size"), f, want)
		}
	}
}

// TestCutNoSize (15.1): sizes that are none.
func TestCutNoSize(t *testing.T) {
	for _, steps := range someFiles() {
		f := fileOf(t, steps...)
		for _, no := range noSizes() {
			wantStep(t, f, cut(no), api.ErrRange)
		}
	}
}

// TestCutInABlock (15.1): within a block, at its end, and a byte to each side.
func TestCutInABlock(t *testing.T) {
	eight := write(4, 1, 2, 3, 4, 5, 6, 7, 8)
	wantAll(t,
		wanted{[]step{eight, cut(12)}, "12 [0*4 1 2 3 4 5 6 7 8] [1 2]"},
		wanted{[]step{eight, cut(11)}, "11 [0*4 1 2 3 4 5 6 7] [1 2]"},
		wanted{[]step{eight, cut(9)}, "9 [0*4 1 2 3 4 5] [1 2]"},
		wanted{[]step{eight, cut(8)}, "8 [0*4 1 2 3 4] [1]"},
		wanted{[]step{eight, cut(7)}, "7 [0*4 1 2 3] [1]"},
		wanted{[]step{eight, cut(5)}, "5 [0*4 1] [1]"},
		wanted{[]step{eight, cut(4)}, "4 [0*4] []"},
		wanted{[]step{eight, cut(3)}, "3 [0 0 0] []"},
		wanted{[]step{eight, cut(0)}, "0 [] []"},
		wanted{[]step{eight, cut(6), cut(12)}, "12 [0*4 1 2 0*6] [1]"},
		wanted{[]step{eight, cut(6), write(11, 9)}, "12 [0*4 1 2 0*5 9] [1 2]"},
		wanted{[]step{eight, cut(6), write(7, 9)}, "8 [0*4 1 2 0 9] [1]"},
		wanted{[]step{eight, cut(8), write(9, 9)}, "10 [0*4 1 2 3 4 0 9] [1 2]"},
		wanted{[]step{eight, cut(0), write(4, 9)}, "5 [0*4 9] [1]"},
		wanted{[]step{eight, cut(64)}, "64 [0*4 1 2 3 4 5 6 7 8 0*52] [1 2]"},
		wanted{[]step{eight, cut(13), cut(12), cut(64)}, "64 [0*4 1 2 3 4 5 6 7 8 0*52] [1 2]"},
	)
}

// TestCutOther (15.1): what is cut is a place's, whether the block that the cut goes through is there or not.
func TestCutOther(t *testing.T) {
	wantAll(t,
		wanted{[]step{write(0, 1), write(9, 2), cut(6)}, "6 [1 0*5] [0]"},
		wanted{[]step{write(0, 1), write(9, 2), cut(6), cut(10)}, "10 [1 0*9] [0]"},
		wanted{[]step{write(0, 1), write(9, 2), cut(9), cut(10)}, "10 [1 0*9] [0 2]"},
		wanted{[]step{write(63, 1), cut(63), cut(64)}, "64 [0*64] [15]"},
		wanted{[]step{write(63, 1), cut(60), cut(64)}, "64 [0*64] []"},
		wanted{[]step{cut(64), cut(1), cut(9)}, "9 [0*9] []"},
	)
}
