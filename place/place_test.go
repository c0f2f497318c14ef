package place

import (
	"fmt"
	"math"
	"slices"
	"testing"

	"platterhold/api"
	"platterhold/plain"
)

// ways are those of all blocks, in their order, written out.
func ways() [][]int {
	return [][]int{
		{0}, {1}, {2}, {3},
		{4, 0}, {4, 1}, {4, 2}, {4, 3},
		{5, 0, 0}, {5, 0, 1}, {5, 0, 2}, {5, 0, 3},
		{5, 1, 0}, {5, 1, 1}, {5, 1, 2}, {5, 1, 3},
		{5, 2, 0}, {5, 2, 1}, {5, 2, 2}, {5, 2, 3},
		{5, 3, 0}, {5, 3, 1}, {5, 3, 2}, {5, 3, 3},
	}
}

// slowBlock is Block in another way than the program's: the way is looked for among those of all blocks.
func slowBlock(way []int) (int, api.Errno) {
	for i, one := range ways() {
		if slices.Equal(one, way) {
			return i, api.OK
		}
	}
	if len(way) == 0 {
		return 0, api.ErrNone
	}
	for i, n := range way {
		fit := []int{0, 1, 2, 3}
		if i == 0 {
			fit = append(fit, 4, 5)
		}
		if !slices.Contains(fit, n) {
			return 0, api.ErrRange
		}
	}
	return 0, api.ErrShape
}

// slowTables counts what the ways of the first blocks go through ahead of their last numbers, each once.
func slowTables(blocks int) int {
	seen := map[string]int{}
	for _, way := range ways()[:blocks] {
		for end := 1; end < len(way); end++ {
			seen[fmt.Sprint(way[:end])]++
		}
	}
	return len(seen)
}

// wantError asks for an error, for which nil alone stands for none.
func wantError(t *testing.T, what string, err error, want api.Errno) {
	t.Helper()
	if told := plain.Told(err); told != want {
		t.Errorf("%s: error %v, want %v", what, told, want)
	}
	if (err == nil) != (want == api.OK) {
		t.Errorf("%s: error is nil: %v, want %v", what, err == nil, want == api.OK)
	}
}

// wantOf asks for what Of answers; with an error there is no number.
func wantOf(t *testing.T, i int, want []int, wantNo api.Errno) {
	t.Helper()
	what := fmt.Sprintf("Of(%d)", i)
	got, err := Of(i)
	wantError(t, what, err, wantNo)
	if !slices.Equal(got, want) {
		t.Errorf("%s: got %v, want %v", what, got, want)
	}
}

// wantBlock asks for what Block answers.
func wantBlock(t *testing.T, way []int, want int, wantNo api.Errno) {
	t.Helper()
	what := fmt.Sprintf("Block(%v)", way)
	got, err := Block(way)
	wantError(t, what, err, wantNo)
	if got != want {
		t.Errorf("%s: got %d, want %d", what, got, want)
	}
}

// wantNoWay asks Block for an error.
func wantNoWay(t *testing.T, want api.Errno, way ...int) {
	t.Helper()
	wantBlock(t, way, 0, want)
}

// wantTables asks for what Tables answers.
func wantTables(t *testing.T, blocks, want int, wantNo api.Errno) {
	t.Helper()
	what := fmt.Sprintf("Tables(%d)", blocks)
	got, err := Tables(blocks)
	wantError(t, what, err, wantNo)
	if got != want {
		t.Errorf("%s: got %d, want %d", what, got, want)
	}
}

// farOff are numbers that are nothing's, also such as end in fit bits, or wrap round where they are reckoned with.
func farOff() []int {
	return []int{
		-1, -2, -3, -4, -5, -8, -24, -100, 26, 27, 28, 32, 64, 100, 256, 260, 1_000_000,
		1 << 32, 1<<32 + 1, 1<<32 + 5, -1 << 32, -1<<32 + 3, 1 << 62, 1<<62 + 2, 1<<63 - 8, -1 << 62, -1<<62 + 1,
		math.MinInt32, math.MaxInt32, math.MinInt, math.MinInt + 1, math.MinInt + 4, math.MinInt + 8,
		math.MaxInt - 24, math.MaxInt - 8, math.MaxInt - 3, math.MaxInt - 1, math.MaxInt,
	}
}

// TestNumbers (10.1, P3): the numbers that bound things, which the tests here write out.
func TestNumbers(t *testing.T) {
	if api.MaxDirect != 4 || api.MaxFan != 4 {
		t.Fatalf("MaxDirect %d, MaxFan %d", api.MaxDirect, api.MaxFan)
	}
	if len(ways()) != api.MaxDirect+api.MaxFan+api.MaxFan*api.MaxFan {
		t.Fatalf("%d ways are written out", len(ways()))
	}
}

// TestOfEach (10.1): the way of every block that there is.
func TestOfEach(t *testing.T) {
	for i, way := range ways() {
		wantOf(t, i, way, api.OK)
	}
}

// TestOfNoBlock (10.1, P1): ahead of the first block, behind the last one, and far off.
func TestOfNoBlock(t *testing.T) {
	for _, i := range append(farOff(), 24, 25) {
		wantOf(t, i, nil, api.ErrRange)
	}
	for i := 24; i < 1_000; i++ {
		wantOf(t, i, nil, api.ErrRange)
		wantOf(t, 23-i, nil, api.ErrRange)
	}
}

// TestBlockEach (10.1): the block at every way that there is.
func TestBlockEach(t *testing.T) {
	for i, way := range ways() {
		wantBlock(t, way, i, api.OK)
	}
}

// TestThereAndBack (10.1): Of's way leads by Block to the block, and no two blocks have the same way.
func TestThereAndBack(t *testing.T) {
	seen := map[string]int{}
	for i := range 24 {
		way, err := Of(i)
		wantError(t, fmt.Sprintf("Of(%d)", i), err, api.OK)
		wantBlock(t, way, i, api.OK)
		text := fmt.Sprint(way)
		if other, has := seen[text]; has {
			t.Errorf("blocks %d and %d have the same way %s", other, i, text)
		}
		seen[text] = i
	}
}

// TestBlockNone (10.1, P4): no number at all; nil is the same.
func TestBlockNone(t *testing.T) {
	wantBlock(t, nil, 0, api.ErrNone)
	wantBlock(t, []int{}, 0, api.ErrNone)
	wantBlock(t, []int{5, 0, 0}[:0], 0, api.ErrNone)
	wantBlock(t, []int{-1}[:0], 0, api.ErrNone)
}

// TestBlockFirst (10.1): the first number alone, at each of its edges and far off.
func TestBlockFirst(t *testing.T) {
	wantBlock(t, []int{0}, 0, api.OK)
	wantBlock(t, []int{3}, 3, api.OK)
	wantNoWay(t, api.ErrShape, 4)
	wantNoWay(t, api.ErrShape, 5)
	for _, n := range append(farOff(), 6, 7, 8, 23, 24) {
		wantNoWay(t, api.ErrRange, n)
		wantNoWay(t, api.ErrRange, n, 0)
		wantNoWay(t, api.ErrRange, n, 3)
		wantNoWay(t, api.ErrRange, n, 0, 0)
		wantNoWay(t, api.ErrRange, n, 3, 3)
		wantNoWay(t, api.ErrRange, n, 1, 2, 3)
	}
}

// TestBlockOthers (10.1): the second and the third number at each of their edges and far off.
func TestBlockOthers(t *testing.T) {
	wantBlock(t, []int{4, 0}, 4, api.OK)
	wantBlock(t, []int{4, 3}, 7, api.OK)
	wantBlock(t, []int{5, 0, 0}, 8, api.OK)
	wantBlock(t, []int{5, 0, 3}, 11, api.OK)
	wantBlock(t, []int{5, 3, 0}, 20, api.OK)
	wantBlock(t, []int{5, 3, 3}, 23, api.OK)
	for _, n := range append(farOff(), 4, 5, 6, 7, 8, 16) {
		wantNoWay(t, api.ErrRange, 4, n)
		for _, fit := range []int{0, 1, 3} {
			wantNoWay(t, api.ErrRange, 5, n, fit)
			wantNoWay(t, api.ErrRange, 5, fit, n)
		}
		wantNoWay(t, api.ErrRange, 5, n, n)
	}
}

// TestBlockFewer (10.1): a way that ends too early, by a table and by the table of tables.
func TestBlockFewer(t *testing.T) {
	wantNoWay(t, api.ErrShape, 4)
	wantNoWay(t, api.ErrShape, 5)
	for n := range 4 {
		wantNoWay(t, api.ErrShape, 5, n)
	}
}

// TestBlockMore (10.1): behind each way one number more, two, and many, all of which may be places in a table.
func TestBlockMore(t *testing.T) {
	for _, way := range ways() {
		for n := range 4 {
			for _, many := range []int{1, 2, 3, 10, 1_000} {
				wantNoWay(t, api.ErrShape, append(slices.Clone(way), slices.Repeat([]int{n}, many)...)...)
			}
		}
	}
	long := make([]int, 1_000_000)
	for first := range 6 {
		long[0] = first
		wantBlock(t, long, 0, api.ErrShape)
	}
}

// TestBlockRangeFirst (10.1, P3): a number that may not be is told ahead of too many and too few, wherever it stands.
func TestBlockRangeFirst(t *testing.T) {
	for _, n := range append(farOff(), 4, 5, 6) {
		for first := range 4 {
			wantNoWay(t, api.ErrRange, first, n)
			wantNoWay(t, api.ErrRange, first, 0, n)
			wantNoWay(t, api.ErrRange, first, n, 0)
		}
		wantNoWay(t, api.ErrRange, 4, n, 0)
		wantNoWay(t, api.ErrRange, 4, 0, n)
		wantNoWay(t, api.ErrRange, 4, 0, 1, n)
		wantNoWay(t, api.ErrRange, 5, n)
		wantNoWay(t, api.ErrRange, 5, n, 0, 0, 0)
		wantNoWay(t, api.ErrRange, 5, 0, n, 0, 0)
		wantNoWay(t, api.ErrRange, 5, 0, 0, n, 0)
		wantNoWay(t, api.ErrRange, 5, 0, 0, 0, n)
	}
	for first := range 6 {
		long := make([]int, 1_000)
		long[0] = first
		for _, i := range []int{1, 2, 3, 500, 999} {
			long[i] = 4
			wantBlock(t, long, 0, api.ErrRange)
			long[i] = -1
			wantBlock(t, long, 0, api.ErrRange)
			long[i] = 0
		}
	}
}

// TestBlockAllShort (10.1): every list of up to four small numbers, among them all ways, by the second reckoning.
func TestBlockAllShort(t *testing.T) {
	const low, wide = -2, 11
	found := 0
	all := 1
	for size := range 5 {
		for code := range all {
			way := make([]int, size)
			for i := range way {
				way[i] = low + code%wide
				code /= wide
			}
			want, no := slowBlock(way)
			wantBlock(t, way, want, no)
			if no == api.OK {
				found++
			}
		}
		all *= wide
	}
	if found != 24 {
		t.Errorf("%d ways are among the lists", found)
	}
}

// TestTablesByHand (10.2): no block, and at each edge the last block ahead of it and the first one behind it.
func TestTablesByHand(t *testing.T) {
	for _, c := range []struct{ blocks, want int }{
		{0, 0}, {1, 0}, {3, 0}, {4, 0},
		{5, 1}, {6, 1}, {7, 1}, {8, 1},
		{9, 3}, {10, 3}, {11, 3}, {12, 3},
		{13, 4}, {15, 4}, {16, 4},
		{17, 5}, {19, 5}, {20, 5},
		{21, 6}, {23, 6}, {24, 6},
	} {
		wantTables(t, c.blocks, c.want, api.OK)
	}
}

// TestTablesAll (10.2): every number of blocks, held against the tables that their ways go through.
func TestTablesAll(t *testing.T) {
	for blocks := 0; blocks <= 24; blocks++ {
		wantTables(t, blocks, slowTables(blocks), api.OK)
	}
}

// TestTablesWrong (10.2, P1): fewer than none, more blocks than there can be, and numbers far off.
func TestTablesWrong(t *testing.T) {
	for _, blocks := range append(farOff(), 25) {
		wantTables(t, blocks, 0, api.ErrRange)
	}
	for blocks := 25; blocks < 1_000; blocks++ {
		wantTables(t, blocks, 0, api.ErrRange)
		wantTables(t, 24-blocks, 0, api.ErrRange)
	}
}

// TestHandedIn (10.1, P2, P4): what is handed in, and what lies behind it in its memory, is as it was; behind its
// length nothing is read.
func TestHandedIn(t *testing.T) {
	wrong := [][]int{nil, {4}, {5}, {5, 1}, {0, 0}, {4, 4}, {-1}, {6}, {5, 1, 1, 1}, {3, 1, -1}}
	for _, was := range append(ways(), wrong...) {
		for _, spares := range [][]int{{0, 0, 0}, {3, 2, 1}, {-1, 9, math.MinInt}} {
			memory := append(slices.Clone(was), spares...)
			want, no := slowBlock(was)
			wantBlock(t, memory[:len(was)], want, no)
			if !slices.Equal(memory, append(slices.Clone(was), spares...)) {
				t.Errorf("%v became %v", was, memory)
			}
		}
	}
}

// TestSharesNothing (10.1, P2): writing into a way, also behind its length, changes no other one that came out, ahead
// of it or behind it.
func TestSharesNothing(t *testing.T) {
	for i := range 24 {
		var others [][]int
		for j := range 24 {
			other, _ := Of(j)
			others = append(others, other)
		}
		way, _ := Of(i)
		way = way[:cap(way)]
		for at := range way {
			way[at] = -1
		}
		for j, other := range others {
			if !slices.Equal(other, ways()[j]) {
				t.Errorf("the way of block %d became %v", j, other)
			}
			wantOf(t, j, ways()[j], api.OK)
		}
	}
}

// TestAskedAgain (10.1, 10.2, P2): nothing is kept from one call to the next, whatever was asked between.
func TestAskedAgain(t *testing.T) {
	for range 3 {
		for i, way := range ways() {
			wantOf(t, i, way, api.OK)
			wantOf(t, -1, nil, api.ErrRange)
			wantBlock(t, way, i, api.OK)
			wantNoWay(t, api.ErrShape, 5)
			wantNoWay(t, api.ErrRange, 4, 4)
			wantNoWay(t, api.ErrNone)
			wantTables(t, i, slowTables(i), api.OK)
			wantTables(t, 25, 0, api.ErrRange)
		}
	}
}

// mixer tells numbers in an order that looks mixed, and is the same each time.
type mixer uint32

// below is the next number, from 0 to top - 1.
func (m *mixer) below(top int) int {
	*m = *m*1664525 + 1013904223
	return int(*m>>16) % top
}

// TestMixedWays (10.1, P3): lists of many sizes, in which now and then a number may not be, by the second reckoning.
func TestMixedWays(t *testing.T) {
	mixed := mixer(10)
	var told [8]int
	for range 50_000 {
		way := make([]int, mixed.below(7))
		for i := range way {
			way[i] = mixed.below(4)
			if i == 0 {
				way[i] = mixed.below(6)
			}
			if mixed.below(12) == 0 {
				way[i] = farOff()[mixed.below(len(farOff()))]
			}
		}
		want, no := slowBlock(way)
		wantBlock(t, way, want, no)
		told[no]++
	}
	for _, no := range []api.Errno{api.OK, api.ErrRange, api.ErrShape, api.ErrNone} {
		if told[no] < 100 {
			t.Errorf("%v was told %d times: the lists are too poor", no, told[no])
		}
	}
}
