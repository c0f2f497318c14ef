package sparse

import (
	"fmt"
	"math"
	"slices"
	"testing"

	"platterhold/api"
)

// TestWriteCounts (15.1, P3): each count of bytes at each place: R is ErrRange, F is ErrFull, and a point is no error.
func TestWriteCounts(t *testing.T) {
	places := []int{-1, 0, 1, 3, 4, 60, 63, 64, 65, math.MaxInt, math.MinInt}
	errors := map[byte]api.Errno{'.': api.OK, 'R': api.ErrRange, 'F': api.ErrFull}
	for n, row := range map[int]string{
		0:     "R.......RRR",
		1:     "R......FRRR",
		3:     "R.....FFRRR",
		4:     "R.....FFRRR",
		5:     "R....FFFRRR",
		60:    "R....FFFRRR",
		61:    "R...FFFFRRR",
		63:    "R..FFFFFRRR",
		64:    "R.FFFFFFRRR",
		65:    "FFFFFFFFFFF",
		66:    "FFFFFFFFFFF",
		128:   "FFFFFFFFFFF",
		1_000: "FFFFFFFFFFF",
	} {
		for i, at := range places {
			for _, steps := range someFiles() {
				f := fileOf(t, steps...)
				wantStep(t, f, write(at, rising(n)...), errors[row[i]])
				if row[i] == '.' && n > 0 {
					wantRead(t, f, at, n, rising(n), api.OK)
				}
			}
		}
	}
}

// TestWriteEach (15.1): so many bytes as may be, at each place of a new file, and one more.
func TestWriteEach(t *testing.T) {
	for at := range 64 {
		for n := 1; n <= 64-at; n++ {
			f := fileOf(t, write(at, rising(n)...))
			var blocks []int
			for i := range 16 {
				if 4*i < at+n && 4*i+4 > at {
					blocks = append(blocks, i)
				}
			}
			want := text(at+n, append(make([]int, at), rising(n)...), blocks)
			wantFile(t, fmt.Sprintf("%d bytes at %d", n, at), f, want)
		}
		wantStep(t, New(), write(at, rising(65-at)...), api.ErrFull)
	}
}

// TestWriteBytes (15.1): each byte that there is.
func TestWriteBytes(t *testing.T) {
	f := New()
	for b := range 256 {
		wantStep(t, f, write(5, b, 255-b), api.OK)
		wantRead(t, f, 4, 9, []int{0, b, 255 - b}, api.OK)
	}
}

// TestWriteNoByte (15.1): what is no byte, as the first one, the last one, between others, and alone.
func TestWriteNoByte(t *testing.T) {
	for _, no := range noBytes() {
		for _, l := range [][]int{
			{no}, {no, 1, 2, 3, 4}, {1, 2, 3, 4, no}, {1, 2, no, 3, 4}, {no, no}, append(rising(63), no), append([]int{no}, rising(63)...),
		} {
			wantStep(t, New(), write(0, l...), api.ErrRange)
			wantStep(t, fileOf(t, write(0, rising(20)...)), write(0, l...), api.ErrRange)
		}
	}
}

// TestWriteTwoFaults (15.1, P3): too many bytes come first, then a number that is no byte, or a place that is none, and
// then the end.
func TestWriteTwoFaults(t *testing.T) {
	for _, steps := range someFiles() {
		f := fileOf(t, steps...)
		for _, no := range noBytes() {
			for _, at := range append(noSizes(), 0, 1, 63, 64) {
				wantStep(t, f, write(at, append(rising(64), no)...), api.ErrFull)
				wantStep(t, f, write(at, append([]int{no}, rising(64)...)...), api.ErrFull)
			}
			for at := range 65 {
				wantStep(t, f, write(at, append(rising(64-at), no)...), wantLong(at))
				wantStep(t, f, write(at, append([]int{no}, rising(64-at)...)...), wantLong(at))
			}
		}
		for _, at := range noSizes() {
			wantStep(t, f, write(at, rising(64)...), api.ErrRange)
			wantStep(t, f, write(at, 1, 256, 2), api.ErrRange)
		}
	}
}

// wantLong is what has to be told of 65 - at numbers at a place, of which one is no byte.
func wantLong(at int) api.Errno {
	if at == 0 {
		return api.ErrFull
	}
	return api.ErrRange
}

// TestWriteNothing (15.1, P4): no bytes, at each place, change nothing, also not what is behind the end.
func TestWriteNothing(t *testing.T) {
	for _, steps := range someFiles() {
		want := shown(fileOf(t, steps...))
		longer := shown(fileOf(t, append(slices.Clone(steps), cut(64))...))
		for at := range 65 {
			for _, l := range [][]int{nil, {}, make([]int, 0, 9), rising(3)[:0]} {
				f := fileOf(t, steps...)
				wantStep(t, f, write(at, l...), api.OK)
				wantFile(t, fmt.Sprint(steps, "and nothing at ", at), f, want)
				wantStep(t, f, cut(64), api.OK)
				wantFile(t, fmt.Sprint(steps, "and nothing at ", at, ", longer"), f, longer)
			}
		}
	}
}

// TestWriteOver (15.1): bytes over others, in part and whole, and over a block's end.
func TestWriteOver(t *testing.T) {
	ten := write(0, rising(10)...)
	wantAll(t,
		wanted{[]step{ten, write(0, 99)}, "10 [99 2 3 4 5 6 7 8 9 10] [0 1 2]"},
		wanted{[]step{ten, write(9, 99)}, "10 [1 2 3 4 5 6 7 8 9 99] [0 1 2]"},
		wanted{[]step{ten, write(3, 98, 99)}, "10 [1 2 3 98 99 6 7 8 9 10] [0 1 2]"},
		wanted{[]step{ten, write(4, 96, 97, 98, 99)}, "10 [1 2 3 4 96 97 98 99 9 10] [0 1 2]"},
		wanted{[]step{ten, write(2, 91, 92, 93, 94, 95, 96, 97)}, "10 [1 2 91 92 93 94 95 96 97 10] [0 1 2]"},
		wanted{[]step{ten, write(0, 91, 92, 93, 94, 95, 96, 97, 98, 99, 90)}, "10 [91 92 93 94 95 96 97 98 99 90] [0 1 2]"},
		wanted{[]step{ten, write(8, 91, 92, 93, 94, 95)}, "13 [1 2 3 4 5 6 7 8 91 92 93 94 95] [0 1 2 3]"},
		wanted{[]step{ten, write(10, 91)}, "11 [1 2 3 4 5 6 7 8 9 10 91] [0 1 2]"},
		wanted{[]step{ten, write(5, 0, 0)}, "10 [1 2 3 4 5 0 0 8 9 10] [0 1 2]"},
		wanted{[]step{ten, ten, ten}, "10 [1 2 3 4 5 6 7 8 9 10] [0 1 2]"},
		wanted{[]step{write(5, 9), write(3, 8), write(4, 7)}, "6 [0 0 0 8 7 9] [0 1]"},
	)
}

// TestWriteFarBehind (15.1): what is between the old end and bytes behind it is 0, and has no block.
func TestWriteFarBehind(t *testing.T) {
	wantAll(t,
		wanted{[]step{write(0, 1), write(2, 2)}, "3 [1 0 2] [0]"},
		wanted{[]step{write(0, 1), write(4, 2)}, "5 [1 0 0 0 2] [0 1]"},
		wanted{[]step{write(0, 1), write(8, 2)}, "9 [1 0*7 2] [0 2]"},
		wanted{[]step{write(0, 1, 2, 3), write(40, 4, 5)}, "42 [1 2 3 0*37 4 5] [0 10]"},
		wanted{[]step{write(0, 1, 2, 3, 4), write(63, 5)}, "64 [1 2 3 4 0*59 5] [0 15]"},
		wanted{[]step{cut(10), write(20, 5)}, "21 [0*20 5] [5]"},
		wanted{[]step{write(61, 5, 6, 7), write(2, 1)}, "64 [0 0 1 0*58 5 6 7] [0 15]"},
	)
}

// TestWriteSize (15.1): bytes within a file leave its size; such as end behind its end make it longer.
func TestWriteSize(t *testing.T) {
	for size := range 65 {
		for at := range 64 {
			f := fileOf(t, cut(size), write(at, 1))
			if want := max(size, at+1); f.Size() != want {
				t.Errorf("size %d, and a byte at %d: got %d, want %d", size, at, f.Size(), want)
			}
		}
	}
}

// TestWriteKeepsNothing (15.1, P2): the list is as it was, what lies ahead of it and behind it too, and a later change of
// it changes nothing.
func TestWriteKeepsNothing(t *testing.T) {
	for at := range 51 {
		memory := rising(20)
		f := fileOf(t, write(1, 200, 201), cut(64))
		if err := f.Write(at, memory[3:16]); err != nil {
			t.Fatal(err)
		}
		if !slices.Equal(memory, rising(20)) {
			t.Fatalf("Write at %d changed the list: %v", at, memory)
		}
		want := shown(f)
		for i := range memory {
			memory[i] = 77
		}
		wantFile(t, fmt.Sprint("Write at ", at, ", and the list was changed"), f, want)
		wantRead(t, f, at, 13, rising(20)[3:16], api.OK)
		wantStep(t, f, write(at, 1, 1, 1, 1, 1), api.OK)
		if !slices.Equal(memory, slices.Repeat([]int{77}, 20)) {
			t.Fatalf("a second Write at %d changed the first list: %v", at, memory)
		}
	}
}

// TestWriteNotBehindTheList (15.1, P4): what lies behind the list's length may be anything.
func TestWriteNotBehindTheList(t *testing.T) {
	memory := append(rising(5), noBytes()...)
	f := fileOf(t, write(0, 9, 9, 9, 9, 9, 9, 9))
	if err := f.Write(0, memory[:5]); err != nil {
		t.Fatal(err)
	}
	wantFile(t, "Write", f, "7 [1 2 3 4 5 9 9] [0 1]")
}
