package sparse

import (
	"math"
	"testing"

	"platterhold/api"
)

// TestReadEach (15.1): each place and each number, of files of each size, also beyond the end.
func TestReadEach(t *testing.T) {
	for size := range 65 {
		f := fileOf(t, write(0, rising(size)...))
		all := rising(size)
		for at := range 65 {
			for n := range 65 {
				wantRead(t, f, at, n, all[min(at, size):min(at+n, size)], api.OK)
			}
		}
	}
}

// TestReadHoles (15.1): each place and each number, of files with holes, without bytes, and without blocks.
func TestReadHoles(t *testing.T) {
	all := make([]int, 64)
	copy(all[3:], []int{8, 9})
	copy(all[21:], []int{1, 0, 2})
	all[62] = 255
	for f, l := range map[*File][]int{
		New():                   nil,
		fileOf(t, cut(10)):      all[5:15],
		fileOf(t, cut(64)):      make([]int, 64),
		fileOf(t, write(64)):    nil,
		fileOf(t, write(3, 8)):  all[:4],
		fileOf(t, write(62, 0)): make([]int, 63),
		fileOf(t, write(62, 255), write(21, 1, 0, 2), write(3, 8, 9)):          all[:63],
		fileOf(t, write(3, 8, 9), write(21, 1, 0, 2), write(62, 255), cut(64)): all,
	} {
		for at := range 65 {
			for n := range 65 {
				wantRead(t, f, at, n, l[min(at, len(l)):min(at+n, len(l))], api.OK)
			}
		}
	}
}

// TestReadNone (15.1, P1): places and numbers that are none, each alone and both at once.
func TestReadNone(t *testing.T) {
	for _, steps := range someFiles() {
		f := fileOf(t, steps...)
		for _, no := range noSizes() {
			for _, other := range []int{0, 1, 3, 4, 63, 64, no, -1, 65, math.MinInt, math.MaxInt} {
				wantRead(t, f, no, other, nil, api.ErrRange)
				wantRead(t, f, other, no, nil, api.ErrRange)
			}
		}
	}
}

// TestReadIsTheCallers (15.1, P2): what was read may be changed, as far as its memory goes, and what was read once more is
// something else.
func TestReadIsTheCallers(t *testing.T) {
	for _, steps := range someFiles() {
		f := fileOf(t, steps...)
		want := shown(f)
		for at := range 65 {
			first, err := f.Read(at, 64)
			second, againErr := f.Read(at, 64)
			if err != nil || againErr != nil {
				t.Fatal(err, againErr)
			}
			was := brief(second)
			first = first[:cap(first)]
			for i := range first {
				first[i] = 99
			}
			if got := brief(second); got != was {
				t.Errorf("%v: Read(%d, 64) twice: the second list was %s, and is %s", steps, at, was, got)
			}
			wantFile(t, "what was read was changed", f, want)
		}
	}
}

// TestReadStays (15.1, P2): what was read stays as it is, whatever comes behind.
func TestReadStays(t *testing.T) {
	f := fileOf(t, write(0, rising(10)...))
	read, err := f.Read(2, 6)
	wantError(t, "Read", err, api.OK)
	wantStep(t, f, write(0, 99, 99, 99, 99, 99), api.OK)
	wantStep(t, f, cut(1), api.OK)
	if got := brief(read); got != "3 4 5 6 7 8" {
		t.Errorf("what was read is %s now", got)
	}
}
