package crc

import (
	"fmt"
	"math"
	"slices"
	"testing"

	"platterhold/api"
	"platterhold/plain"
)

// wantError asks for an error, for which nil alone stands for none.
func wantError(t *testing.T, what string, err error, want api.Errno) {
	t.Helper()
	if told := plain.Told(err); told != want {
		t.Errorf("%s: error %v, want %v", what, told, want)
	}
	if (err == nil) != (want == api.OK) {
		t.Errorf("%s: error is nil: %v, want %v", what, err == nil, want == api.OK)
	}
}

// wantSum asks for what Sum tells of bytes.
func wantSum(t *testing.T, l []int, want int, wantNo api.Errno) {
	t.Helper()
	got, err := Sum(l)
	wantError(t, fmt.Sprintf("Sum(%v)", l), err, wantNo)
	if got != want {
		t.Errorf("Sum(%v): got %d, want %d", l, got, want)
	}
}

// wantGood asks for what Good tells of bytes.
func wantGood(t *testing.T, l []int, want bool, wantNo api.Errno) {
	t.Helper()
	got, err := Good(l)
	wantError(t, fmt.Sprintf("Good(%v)", l), err, wantNo)
	if got != want {
		t.Errorf("Good(%v): got %v, want %v", l, got, want)
	}
}

// bytesOf makes so many bytes, others for each kind; those of kind 0 are all 0, of kind 1 all MaxByte.
func bytesOf(many, kind int) []int {
	l := make([]int, many)
	for i := range l {
		switch kind {
		case 0:
			l[i] = 0
		case 1:
			l[i] = api.MaxByte
		default:
			l[i] = (kind*97 + i*i*31 + i*kind*59) % 256
		}
	}
	return l
}

// rowOfBits is bytes as one row of bits, the highest one of each first.
func rowOfBits(l []int) []int {
	row := make([]int, 8*len(l))
	for i, b := range l {
		for j := 7; j >= 0; j-- {
			row[8*i+j] = b % 2
			b /= 2
		}
	}
	return row
}

// slowSum is Sum in another way than the program's: the row of bits, and eight noughts behind it, is divided on paper.
// Under each one, from the left on, the nine bits of 0x107 are written; what is left in the last eight is the sum.
func slowSum(l []int) int {
	under := [9]int{1, 0, 0, 0, 0, 0, 1, 1, 1}
	row := append(rowOfBits(l), make([]int, 8)...)
	for i := range 8 * len(l) {
		if row[i] == 0 {
			continue
		}
		for j, bit := range under {
			row[i+j] = (row[i+j] + bit) % 2
		}
	}
	left := 0
	for _, bit := range row[8*len(l):] {
		left = left*2 + bit
	}
	return left
}

// withSum makes bytes with their Sum behind them, by the slow way.
func withSum(l []int) []int {
	return append(slices.Clone(l), slowSum(l))
}

// turned makes bytes in which the ones of a pattern of eight bits, whose highest one is at a place in the row of
// bits, were turned. The pattern may not reach behind the last byte.
func turned(l []int, place, pattern int) []int {
	out := slices.Clone(l)
	i, shift := place/8, place%8
	out[i] ^= pattern >> shift
	if low := pattern << (8 - shift) & 255; low != 0 {
		out[i+1] ^= low
	}
	return out
}

// noBytes are numbers just outside of what a byte may be, and far from it, also such as end in fit bits.
func noBytes() []int {
	return []int{
		-1, api.MaxByte + 1, -2, api.MaxByte + 2, -api.MaxByte, -256, 511, 1_000, 1<<32 + 5, -1 << 32,
		math.MinInt32, math.MaxInt32, math.MinInt, math.MinInt + 1, math.MaxInt,
	}
}

// TestSumByHand (5.1): sums that can be worked out on paper, and one that is well known.
func TestSumByHand(t *testing.T) {
	for _, c := range []struct {
		l    []int
		want int
	}{
		{[]int{0}, 0}, {[]int{0, 0, 0}, 0},
		// The last bit of all is 1: 0x107 less 256 is left; those ahead of it are that, doubled.
		{[]int{1}, 0x07}, {[]int{2}, 0x0e}, {[]int{4}, 0x1c}, {[]int{8}, 0x38}, {[]int{16}, 0x70}, {[]int{32}, 0xe0},
		// 0xe0, doubled, is 0x1c0, of which 0x107 is taken away.
		{[]int{64}, 0xc7}, {[]int{128}, 0x89},
		{[]int{3}, 0x09}, {[]int{255}, 0xf3},
		{[]int{0, 1}, 0x07}, {[]int{0, 0, 0, 1}, 0x07},
		// 1, and eight bits that are 0 behind it, is 0x07, doubled eight times.
		{[]int{1, 0}, 0x15},
		{[]int{1, 7}, 0}, {[]int{1, 6}, 0x07},
		{[]int{1, 2, 3}, 0x48},
		{[]int{'1', '2', '3', '4', '5', '6', '7', '8', '9'}, 0xf4},
	} {
		wantSum(t, c.l, c.want, api.OK)
	}
}

// TestSumOfNone (5.1, P4): of no bytes at all the sum is 0, and nil is the same.
func TestSumOfNone(t *testing.T) {
	wantSum(t, nil, 0, api.OK)
	wantSum(t, []int{}, 0, api.OK)
}

// TestSumOfOne (5.1): each single byte, by another way; no two bytes have one sum.
func TestSumOfOne(t *testing.T) {
	var seen [256]int
	for b := range 256 {
		want := slowSum([]int{b})
		wantSum(t, []int{b}, want, api.OK)
		seen[want]++
	}
	for sum, times := range seen {
		if times != 1 {
			t.Errorf("%d is the sum of %d bytes", sum, times)
		}
	}
}

// TestSumOfTwo (5.1): each two bytes, by another way.
func TestSumOfTwo(t *testing.T) {
	for a := range 256 {
		for b := range 256 {
			l := []int{a, b}
			if got, err := Sum(l); err != nil || got != slowSum(l) {
				t.Errorf("Sum(%v): got %d, %v, want %d", l, got, err, slowSum(l))
			}
		}
	}
}

// TestSumOfMany (5.1): each count of bytes that may be, up to MaxSize, by another way.
func TestSumOfMany(t *testing.T) {
	for many := range api.MaxSize + 1 {
		for kind := range 20 {
			l := bytesOf(many, kind)
			wantSum(t, l, slowSum(l), api.OK)
		}
	}
}

// TestSumOfEachBit (5.1): a one at each place of the longest row of bits, all others 0.
func TestSumOfEachBit(t *testing.T) {
	// From the last bit on, each place's sum is the one behind it, doubled.
	want := 0x07
	for place := 8*api.MaxSize - 1; place >= 0; place-- {
		l := make([]int, api.MaxSize)
		l[place/8] = 128 >> (place % 8)
		wantSum(t, l, want, api.OK)
		want *= 2
		if want > 255 {
			want ^= 0x107
		}
	}
}

// TestSumFull (5.1): MaxSize bytes may be, one more may not, whatever stands in them.
func TestSumFull(t *testing.T) {
	if api.MaxSize != 64 {
		t.Fatalf("MaxSize is %d", api.MaxSize)
	}
	for kind := range 5 {
		wantSum(t, bytesOf(63, kind), slowSum(bytesOf(63, kind)), api.OK)
		wantSum(t, bytesOf(64, kind), slowSum(bytesOf(64, kind)), api.OK)
		for _, many := range []int{65, 66, 128, 1_000} {
			wantSum(t, bytesOf(many, kind), 0, api.ErrFull)
		}
	}
}

// TestSumRange (5.1, P1): what is no byte, at the first place, in the middle and at the last one; the edges are bytes.
func TestSumRange(t *testing.T) {
	for _, many := range []int{1, 2, 3, 9, api.MaxSize - 1, api.MaxSize} {
		for _, place := range []int{0, many / 2, many - 1} {
			for _, edge := range []int{0, api.MaxByte} {
				l := bytesOf(many, 3)
				l[place] = edge
				wantSum(t, l, slowSum(l), api.OK)
			}
			for _, no := range noBytes() {
				l := bytesOf(many, 3)
				l[place] = no
				wantSum(t, l, 0, api.ErrRange)
			}
		}
	}
	for _, no := range noBytes() {
		wantSum(t, slices.Repeat([]int{no}, api.MaxSize), 0, api.ErrRange)
	}
}

// TestFullAheadOfRange (5.1, P3): of too many bytes, of which one or each is none, ErrFull is told.
func TestFullAheadOfRange(t *testing.T) {
	many := api.MaxSize + 1
	for _, no := range noBytes() {
		for _, place := range []int{0, many / 2, many - 2, many - 1} {
			l := bytesOf(many, 4)
			l[place] = no
			wantSum(t, l, 0, api.ErrFull)
			wantGood(t, l, false, api.ErrFull)
		}
		l := slices.Repeat([]int{no}, many)
		wantSum(t, l, 0, api.ErrFull)
		wantGood(t, l, false, api.ErrFull)
	}
}

// TestGoodByHand (5.1): bytes that can be judged on paper.
func TestGoodByHand(t *testing.T) {
	for _, c := range []struct {
		l    []int
		want bool
	}{
		{[]int{0}, true}, {[]int{1}, false}, {[]int{7}, false}, {[]int{128}, false}, {[]int{255}, false},
		{[]int{0, 0}, true}, {[]int{1, 7}, true}, {[]int{7, 1}, false}, {[]int{1, 6}, false}, {[]int{1, 0}, false},
		{[]int{2, 14}, true}, {[]int{0, 1, 7}, true}, {[]int{1, 7, 0}, true}, {[]int{255, 0xf3}, true},
		{[]int{'1', '2', '3', '4', '5', '6', '7', '8', '9', 0xf4}, true},
		{[]int{'1', '2', '3', '4', '5', '6', '8', '7', '9', 0xf4}, false},
	} {
		wantGood(t, c.l, c.want, api.OK)
	}
}

// TestGoodIsSumOfNought (5.1): each one byte and each two of them.
func TestGoodIsSumOfNought(t *testing.T) {
	for a := range 256 {
		wantGood(t, []int{a}, a == 0, api.OK)
		for b := range 256 {
			l := []int{a, b}
			if got, err := Good(l); err != nil || got != (slowSum(l) == 0) {
				t.Errorf("Good(%v): got %v, %v", l, got, err)
			}
		}
	}
}

// TestGoodWrong (5.1, P4): none, then what Sum tells, at the edges of both.
func TestGoodWrong(t *testing.T) {
	wantGood(t, nil, false, api.ErrNone)
	wantGood(t, []int{}, false, api.ErrNone)
	wantGood(t, bytesOf(api.MaxSize, 0), true, api.OK)
	wantGood(t, bytesOf(api.MaxSize+1, 0), false, api.ErrFull)
	wantGood(t, bytesOf(1_000, 0), false, api.ErrFull)
	for _, no := range noBytes() {
		wantGood(t, []int{no}, false, api.ErrRange)
		for _, many := range []int{2, 9, api.MaxSize} {
			for _, place := range []int{0, many / 2, many - 1} {
				l := bytesOf(many, 0)
				l[place] = no
				wantGood(t, l, false, api.ErrRange)
			}
		}
	}
}

// TestGoodWithSum (5.1): bytes with their Sum behind them are good, and with any other byte they are not.
func TestGoodWithSum(t *testing.T) {
	for many := range api.MaxSize {
		for kind := range 6 {
			l := bytesOf(many, kind)
			sum, err := Sum(l)
			wantError(t, fmt.Sprintf("Sum(%v)", l), err, api.OK)
			for b := range 256 {
				wantGood(t, append(slices.Clone(l), b), b == sum, api.OK)
			}
		}
	}
}

// TestGoodOfFullWithSum (5.1): MaxSize bytes have a Sum, but with it behind them they are too many.
func TestGoodOfFullWithSum(t *testing.T) {
	for kind := range 6 {
		wantGood(t, withSum(bytesOf(api.MaxSize-1, kind)), true, api.OK)
		wantGood(t, withSum(bytesOf(api.MaxSize, kind)), false, api.ErrFull)
	}
}

// TestTurnedIsSeen (5.1): whichever bits are turned within eight that stand side by side, good bytes are not any more.
func TestTurnedIsSeen(t *testing.T) {
	for _, many := range []int{0, 1, 2, 8, api.MaxSize - 1} {
		good := withSum(bytesOf(many, 6))
		wantGood(t, good, true, api.OK)
		for place := 0; place <= 8*len(good)-8; place++ {
			for pattern := 1; pattern < 256; pattern++ {
				if got, err := Good(turned(good, place, pattern)); err != nil || got {
					t.Fatalf("%v, at place %d turned by %#x: good %v, %v", good, place, pattern, got, err)
				}
			}
		}
	}
}

// TestTurnedAsTaken (5.1): nine bits that are turned as those of 0x107 stand are not seen, wherever they are.
func TestTurnedAsTaken(t *testing.T) {
	good := withSum(bytesOf(10, 8))
	for place := 0; place <= 8*len(good)-9; place++ {
		// 0x107 is its first eight bits, and a one behind them.
		l := turned(good, place, 0x107>>1)
		last := place + 8
		l[last/8] ^= 128 >> (last % 8)
		wantGood(t, l, true, api.OK)
	}
}

// TestListsAreLeft (P2, P4): a list that is handed in is left as it was, and what lies behind it neither read nor
// written, whether what is told is an error or not.
func TestListsAreLeft(t *testing.T) {
	for _, l := range [][]int{
		{}, {0}, {1, 7}, {1, 2, 3}, {-1}, {5, 256, 5}, bytesOf(api.MaxSize, 9), bytesOf(api.MaxSize+1, 9),
		withSum(bytesOf(30, 9)),
	} {
		behind := []int{-1, 999, math.MinInt, 77}
		all := slices.Concat(l, behind)
		given := all[:len(l)]
		sum, sumErr := Sum(given)
		good, goodErr := Good(given)
		if !slices.Equal(all, slices.Concat(l, behind)) {
			t.Errorf("%v is changed: %v", l, all)
		}
		wantSum(t, slices.Clone(l), sum, plain.Told(sumErr))
		wantGood(t, slices.Clone(l), good, plain.Told(goodErr))
	}
	full := bytesOf(api.MaxSize+10, 5)
	wantSum(t, full[:3], slowSum(bytesOf(3, 5)), api.OK)
}

// TestSameAgain (P2): what a call answers hangs on no call before, also not on one that was wrong.
func TestSameAgain(t *testing.T) {
	for range 2 {
		wantSum(t, []int{1, 2, 3}, 0x48, api.OK)
		wantSum(t, []int{1, 2, 256}, 0, api.ErrRange)
		wantGood(t, []int{1, 2, 3, 0x48}, true, api.OK)
		wantSum(t, bytesOf(api.MaxSize+1, 1), 0, api.ErrFull)
		wantGood(t, nil, false, api.ErrNone)
		wantGood(t, []int{1, 2, 3, 0x49}, false, api.OK)
	}
	// A list is not kept: when it changes, the next answer does.
	l := []int{1, 7}
	wantGood(t, l, true, api.OK)
	l[1] = 8
	wantGood(t, l, false, api.OK)
}

// TestErrorNumbers (P3): the errors that this package tells have the numbers that the document gives them.
func TestErrorNumbers(t *testing.T) {
	for _, c := range []struct {
		l         []int
		sum, good int
	}{
		{[]int{0}, 0, 0},
		{[]int{256}, 1, 1},
		{make([]int, 65), 4, 4},
		{nil, 0, 5},
	} {
		_, sumErr := Sum(c.l)
		_, goodErr := Good(c.l)
		if sum, good := int(plain.Told(sumErr)), int(plain.Told(goodErr)); sum != c.sum || good != c.good {
			t.Errorf("%v: numbers %d and %d, want %d and %d", c.l, sum, good, c.sum, c.good)
		}
	}
}
