package reed

import (
	"fmt"
	"math"
	"math/bits"
	"slices"
	"testing"

	"platterhold/api"
	"platterhold/plain"
)

// wantShards asks for shards and an error; with an error the shards are nil, and nil alone stands for no error.
func wantShards(t *testing.T, what string, got []int, err error, want []int, wantNo api.Errno) {
	t.Helper()
	if told := plain.Told(err); told != wantNo {
		t.Errorf("%s: error %v, want %v", what, told, wantNo)
	}
	if (err == nil) != (wantNo == api.OK) {
		t.Errorf("%s: error is nil: %v, want %v", what, err == nil, wantNo == api.OK)
	}
	if wantNo != api.OK && got != nil {
		t.Errorf("%s: got %v beside an error", what, got)
	}
	if !slices.Equal(got, want) {
		t.Errorf("%s: got %v, want %v", what, got, want)
	}
}

// mustMake makes shards of what may be.
func mustMake(t *testing.T, data []int, more int) []int {
	t.Helper()
	shards, err := Make(data, more)
	if err != nil {
		t.Fatalf("Make(%v, %d): %v", data, more, err)
	}
	return shards
}

// slowTimes is a product of bytes, of sums of doubles.
func slowTimes(a, b int) int {
	sum := 0
	for ; b > 0; b /= 2 {
		if b%2 == 1 {
			sum ^= a
		}
		a *= 2
		if a >= 256 {
			a ^= 285
		}
	}
	return sum
}

// slowOver looks for the byte whose product with b is a.
func slowOver(a, b int) int {
	for c := range 256 {
		if slowTimes(c, b) == a {
			return c
		}
	}
	panic("no byte")
}

// slowShard tells a shard in another way than the program's, without a row of factors: each datum has a share that is
// the datum at its own number and 0 at those of all others.
func slowShard(data []int, k int) int {
	sum := 0
	for i, datum := range data {
		share := datum
		for j := range data {
			if j != i {
				share = slowOver(slowTimes(share, k^j), i^j)
			}
		}
		sum ^= share
	}
	return sum
}

// slowMake makes shards in another way than the program's.
func slowMake(data []int, more int) []int {
	shards := slices.Clone(data)
	for k := len(data); k < len(data)+more; k++ {
		shards = append(shards, slowShard(data, k))
	}
	return shards
}

// dataOf makes so many data, others for each kind; those of kind 0 are all 0, of kind 1 all MaxByte.
func dataOf(many, kind int) []int {
	data := make([]int, many)
	for i := range data {
		switch kind {
		case 0:
			data[i] = 0
		case 1:
			data[i] = api.MaxByte
		default:
			data[i] = (kind*97 + i*i*31 + i*kind*59) % 256
		}
	}
	return data
}

// without has shards of which those in a set of bits are not there.
func without(shards []int, lost int) []int {
	rest := slices.Clone(shards)
	for i := range rest {
		if lost>>i&1 == 1 {
			rest[i] = -1
		}
	}
	return rest
}

// noBytes are numbers just outside of what a byte may be, and far from it.
func noBytes() []int {
	return []int{-1, api.MaxByte + 1, -api.MaxByte, 1 << 32, math.MinInt, math.MaxInt}
}

// noShards are numbers just outside of what a shard may be, and far from it.
func noShards() []int {
	return []int{-2, api.MaxByte + 1, -api.MaxByte, 1 << 32, math.MinInt, math.MaxInt}
}

// TestMakeByHand (3.1): shards that can be worked out on paper.
func TestMakeByHand(t *testing.T) {
	for _, c := range []struct {
		name string
		data []int
		more int
		want []int
	}{
		{"one datum, none more", []int{7}, 0, []int{7}},
		{"one datum", []int{7}, 4, []int{7, 7, 7, 7, 7}},
		{"one datum that is 0", []int{0}, 4, []int{0, 0, 0, 0, 0}},
		{"one datum that is MaxByte", []int{255}, 1, []int{255, 255}},
		{"none more", []int{1, 2, 3}, 0, []int{1, 2, 3}},
		// Of the row 0, 1 each shard is its own number.
		{"two data that are their numbers", []int{0, 1}, 4, []int{0, 1, 2, 3, 4, 5}},
		// Of the row 5, 1 each shard is the sum of its number and 5.
		{"two data", []int{5, 4}, 4, []int{5, 4, 7, 6, 1, 0}},
		// Of the row 0, 128 each shard is 128 times its number.
		{"a shard that a product makes", []int{0, 128}, 3, []int{0, 128, 29, 157, 58}},
		// Of the row 0, 0, 1 each shard is its number times its number.
		{"three data", []int{0, 1, 4}, 4, []int{0, 1, 4, 5, 16, 17, 20}},
		{"data that are alike", []int{9, 9, 9, 9}, 4, []int{9, 9, 9, 9, 9, 9, 9, 9}},
		{"three data as played", []int{170, 113, 100}, 4, []int{170, 113, 100, 191, 162, 121, 108}},
	} {
		got, err := Make(c.data, c.more)
		wantShards(t, "Make: "+c.name, got, err, c.want, api.OK)
	}
}

// TestMakeAll (3.1): each count of data and of more, by another way.
func TestMakeAll(t *testing.T) {
	for many := 1; many <= api.MaxData; many++ {
		for more := range api.MaxMore + 1 {
			for kind := range 12 {
				data := dataOf(many, kind)
				got, err := Make(data, more)
				wantShards(t, fmt.Sprintf("Make(%v, %d)", data, more), got, err, slowMake(data, more), api.OK)
			}
		}
	}
}

// TestMakeOneRow (3.1): of all rows of two factors there is one through the data, and it tells the shards behind.
func TestMakeOneRow(t *testing.T) {
	data := []int{201, 58}
	shards := mustMake(t, data, api.MaxMore)
	rows := 0
	for first := range 256 {
		for second := range 256 {
			if first != data[0] || first^second != data[1] {
				continue
			}
			rows++
			for k, shard := range shards {
				if want := first ^ slowTimes(second, k); shard != want {
					t.Errorf("shard %d: got %d, want %d", k, shard, want)
				}
			}
		}
	}
	if rows != 1 {
		t.Errorf("%d rows through the data", rows)
	}
}

// TestMakeAlike (3.1): data that are all alike have shards that are so too.
func TestMakeAlike(t *testing.T) {
	for many := 1; many <= api.MaxData; many++ {
		for _, datum := range []int{0, 1, 128, api.MaxByte} {
			data := slices.Repeat([]int{datum}, many)
			got, err := Make(data, api.MaxMore)
			wantShards(t, "Make of data alike", got, err, slices.Repeat([]int{datum}, many+api.MaxMore), api.OK)
		}
	}
}

// TestMakeWrong (3.1): what may not be, and which error is told of several.
func TestMakeWrong(t *testing.T) {
	for _, more := range []int{-1, 0, 1, api.MaxMore, api.MaxMore + 1, math.MinInt, math.MaxInt} {
		got, err := Make(nil, more)
		wantShards(t, "Make of nil", got, err, nil, api.ErrNone)
		got, err = Make([]int{}, more)
		wantShards(t, "Make of no data", got, err, nil, api.ErrNone)
		for _, many := range []int{api.MaxData + 1, api.MaxData + api.MaxMore, 1000} {
			got, err = Make(make([]int, many), more)
			wantShards(t, "Make of too many", got, err, nil, api.ErrFull)
			got, err = Make(slices.Repeat([]int{-1}, many), more)
			wantShards(t, "Make of too many that are no bytes", got, err, nil, api.ErrFull)
		}
	}
	for _, more := range []int{-1, api.MaxMore + 1, api.MaxData, math.MinInt, math.MaxInt} {
		for many := 1; many <= api.MaxData; many++ {
			got, err := Make(dataOf(many, 5), more)
			wantShards(t, fmt.Sprint("Make of more ", more), got, err, nil, api.ErrRange)
		}
	}
	for _, no := range noBytes() {
		for many := 1; many <= api.MaxData; many++ {
			for place := range many {
				data := dataOf(many, 7)
				data[place] = no
				for _, more := range []int{0, api.MaxMore, -1} {
					got, err := Make(data, more)
					wantShards(t, fmt.Sprintf("Make(%v, %d)", data, more), got, err, nil, api.ErrRange)
				}
			}
		}
	}
}

// TestAgainByHand (3.2): shards that can be worked out on paper.
func TestAgainByHand(t *testing.T) {
	for _, c := range []struct {
		name   string
		shards []int
		data   int
		want   []int
	}{
		{"all there, one datum", []int{7}, 1, []int{7}},
		{"one of five is there", []int{-1, -1, -1, 7, -1}, 1, []int{7, 7, 7, 7, 7}},
		{"all there, two data", []int{1, 1, 1}, 2, []int{1, 1, 1}},
		{"each its number, of the last two", []int{-1, -1, -1, -1, 4, 5}, 2, []int{0, 1, 2, 3, 4, 5}},
		{"each its number, of the first and the last", []int{0, -1, -1, -1, -1, 5}, 2, []int{0, 1, 2, 3, 4, 5}},
		{"the squares of the numbers", []int{-1, 1, -1, 5, -1, -1, 20}, 3, []int{0, 1, 4, 5, 16, 17, 20}},
		{"noughts that are there", []int{-1, 0, -1, 0}, 2, []int{0, 0, 0, 0}},
		{"the greatest that are there", []int{-1, 255, 255}, 2, []int{255, 255, 255}},
		{"no shards more", []int{3, 1, 4, 1, 5, 9, 2, 6}, 8, []int{3, 1, 4, 1, 5, 9, 2, 6}},
	} {
		got, err := Again(c.shards, c.data)
		wantShards(t, "Again: "+c.name, got, err, c.want, api.OK)
	}
}

// TestAgainAll (3.2): whichever shards are lost of what Make made, all come back, or too few are there.
func TestAgainAll(t *testing.T) {
	for many := 1; many <= api.MaxData; many++ {
		for more := range api.MaxMore + 1 {
			shards := mustMake(t, dataOf(many, many+more), more)
			for lost := range 1 << len(shards) {
				rest := without(shards, lost)
				got, err := Again(rest, many)
				what := fmt.Sprintf("Again(%v, %d)", rest, many)
				if bits.OnesCount(uint(lost)) <= more {
					wantShards(t, what, got, err, shards, api.OK)
				} else {
					wantShards(t, what, got, err, nil, api.ErrNone)
				}
			}
		}
	}
}

// TestAgainIsMake (3.2): data and shards behind them that are all lost come to what Make makes, whatever the data.
func TestAgainIsMake(t *testing.T) {
	for many := 1; many <= api.MaxData; many++ {
		for kind := range 12 {
			data := dataOf(many, kind)
			lost := slices.Concat(data, slices.Repeat([]int{-1}, api.MaxMore))
			got, err := Again(lost, many)
			wantShards(t, "Again", got, err, mustMake(t, data, api.MaxMore), api.OK)
		}
	}
}

// TestAgainClash (3.2): any shard beyond the first so many that are there is told if it is another one.
func TestAgainClash(t *testing.T) {
	for many := 1; many <= api.MaxData; many++ {
		shards := mustMake(t, dataOf(many, 3), api.MaxMore)
		for lost := range 1 << len(shards) {
			rest := without(shards, lost)
			there := len(shards) - bits.OnesCount(uint(lost))
			if there < many {
				continue
			}
			for place := range rest {
				if rest[place] == -1 {
					continue
				}
				turned := slices.Clone(rest)
				turned[place] ^= 1 << (place % 8)
				got, err := Again(turned, many)
				if there > many {
					// A row that is turned in one place alone is no row of that many factors, wherever that is.
					wantShards(t, fmt.Sprintf("Again(%v, %d)", turned, many), got, err, nil, api.ErrClash)
				} else if err != nil || got[place] != turned[place] {
					t.Fatalf("Again(%v, %d): got %v, %v", turned, many, got, err)
				}
			}
		}
	}
}

// TestAgainClashByHand (3.2): the last one alone, the first one alone, and 0 where another one is told.
func TestAgainClashByHand(t *testing.T) {
	for _, c := range []struct {
		name   string
		shards []int
		data   int
	}{
		{"the last", []int{0, 1, 2, 3, 4, 4}, 2},
		{"the first", []int{1, 1, 2, 3, 4, 5}, 2},
		{"a 0", []int{7, 0}, 1},
		{"behind some that are lost", []int{-1, 7, -1, -1, 8}, 1},
		{"beside one that is lost", []int{-1, 1, 2, 4}, 2},
	} {
		got, err := Again(c.shards, c.data)
		wantShards(t, "Again: "+c.name, got, err, nil, api.ErrClash)
	}
}

// TestAgainShape (3.2): each count of shards with each count of data.
func TestAgainShape(t *testing.T) {
	for data := -2; data <= api.MaxData+2; data++ {
		for many := range api.MaxData + api.MaxMore + 4 {
			want := api.OK
			switch {
			case many > api.MaxData+api.MaxMore:
				want = api.ErrFull
			case data < 1 || data > api.MaxData:
				want = api.ErrRange
			case many < data || many > data+api.MaxMore:
				want = api.ErrShape
			}
			var all []int
			if want == api.OK {
				all = make([]int, many)
			}
			got, err := Again(make([]int, many), data)
			wantShards(t, fmt.Sprintf("Again of %d shards, %d data", many, data), got, err, all, want)
		}
	}
}

// TestAgainWrong (3.2): which error is told of several.
func TestAgainWrong(t *testing.T) {
	full := api.MaxData + api.MaxMore
	for _, c := range []struct {
		name   string
		shards []int
		data   int
		want   api.Errno
	}{
		{"no shards", nil, 1, api.ErrShape},
		{"no shards, no data", nil, 0, api.ErrRange},
		{"too many, data wrong", make([]int, full+1), 0, api.ErrFull},
		{"too many, shards wrong", slices.Repeat([]int{-2}, full+1), api.MaxData, api.ErrFull},
		{"too many, none there", slices.Repeat([]int{-1}, full+1), api.MaxData, api.ErrFull},
		{"too many that clash", append(make([]int, full), 1), api.MaxData, api.ErrFull},
		{"data far below", []int{1}, math.MinInt, api.ErrRange},
		{"data far above", []int{1}, math.MaxInt, api.ErrRange},
		{"data above, none there", slices.Repeat([]int{-1}, full), api.MaxData + 1, api.ErrRange},
		{"too few, one wrong", []int{256}, 2, api.ErrRange},
		{"too few, none there", []int{-1}, 2, api.ErrShape},
		{"more than may be, none there", slices.Repeat([]int{-1}, 6), 1, api.ErrShape},
		{"more than may be that clash", []int{1, 2, 3, 4, 5, 6}, 1, api.ErrShape},
		{"none there", []int{-1}, 1, api.ErrNone},
		{"none there of all", slices.Repeat([]int{-1}, full), api.MaxData, api.ErrNone},
		{"too few there, one wrong", []int{-1, -1, -2}, 1, api.ErrRange},
		{"one that clashes, one wrong", []int{1, 2, 256}, 1, api.ErrRange},
	} {
		got, err := Again(c.shards, c.data)
		wantShards(t, "Again: "+c.name, got, err, nil, c.want)
	}
	for _, no := range noShards() {
		for place := range full {
			shards := make([]int, full)
			shards[place] = no
			got, err := Again(shards, api.MaxData)
			wantShards(t, fmt.Sprintf("Again(%v)", shards), got, err, nil, api.ErrRange)
		}
	}
}

// TestListsStay (P2, P4): lists that are handed in are not written into, nor read or written behind their length.
func TestListsStay(t *testing.T) {
	memory := []int{5, 4, -7, 999, math.MinInt, 1, 1}
	before := slices.Clone(memory)
	for range 2 {
		got, err := Make(memory[:2], 3)
		wantShards(t, "Make", got, err, []int{5, 4, 7, 6, 1}, api.OK)
	}
	got, err := Make(memory[:0], 3)
	wantShards(t, "Make of none with memory behind", got, err, nil, api.ErrNone)
	if !slices.Equal(memory, before) {
		t.Errorf("data are %v, were %v", memory, before)
	}
	memory = []int{-1, 4, -1, 6, 999, math.MinInt}
	before = slices.Clone(memory)
	for range 2 {
		got, err = Again(memory[:4], 2)
		wantShards(t, "Again", got, err, []int{5, 4, 7, 6}, api.OK)
	}
	got, err = Again(memory[:4], 1)
	wantShards(t, "Again with a clash", got, err, nil, api.ErrClash)
	got, err = Again(memory[:3], 2)
	wantShards(t, "Again of too few", got, err, nil, api.ErrNone)
	if !slices.Equal(memory, before) {
		t.Errorf("shards are %v, were %v", memory, before)
	}
}

// TestFreshMemory (P2): what comes out shares no memory with what went in, nor with what came out before.
func TestFreshMemory(t *testing.T) {
	for _, more := range []int{0, 2} {
		data := []int{5, 4}
		first := mustMake(t, data, more)
		second := mustMake(t, data, more)
		want := slices.Clone(second)
		third, err := Again(first, 2)
		wantShards(t, "Again", third, err, want, api.OK)
		clear(first[:cap(first)])
		if !slices.Equal(data, []int{5, 4}) || !slices.Equal(second, want) || !slices.Equal(third, want) {
			t.Errorf("more %d: lists share memory: %v, %v, %v", more, data, second, third)
		}
	}
}
