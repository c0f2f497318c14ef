package hamming

import (
	"math"
	"testing"

	"platterhold/api"
	"platterhold/plain"
)

// wantError asks for an error, for which nil alone stands for none.
func wantError(t *testing.T, what string, given int, err error, want api.Errno) {
	t.Helper()
	if told := plain.Told(err); told != want {
		t.Errorf("%s(%d): error %v, want %v", what, given, told, want)
	}
	if (err == nil) != (want == api.OK) {
		t.Errorf("%s(%d): error is nil: %v, want %v", what, given, err == nil, want == api.OK)
	}
}

// wantWrite asks for what Write makes of a number.
func wantWrite(t *testing.T, n, want int, wantNo api.Errno) {
	t.Helper()
	got, err := Write(n)
	wantError(t, "Write", n, err, wantNo)
	if got != want {
		t.Errorf("Write(%d): got %d, want %d", n, got, want)
	}
}

// wantRead asks for what Read finds in a word.
func wantRead(t *testing.T, w, wantN, wantPlace int, wantNo api.Errno) {
	t.Helper()
	n, place, err := Read(w)
	wantError(t, "Read", w, err, wantNo)
	if n != wantN || place != wantPlace {
		t.Errorf("Read(%d): got %d, place %d, want %d, place %d", w, n, place, wantN, wantPlace)
	}
}

// wordsByHand are the words of 0 to 15, written out; place 7 stands first.
func wordsByHand() [16]int {
	return [16]int{
		0b0000000, 0b0000111, 0b0011001, 0b0011110,
		0b0101010, 0b0101101, 0b0110011, 0b0110100,
		0b1001011, 0b1001100, 0b1010010, 0b1010101,
		0b1100001, 0b1100110, 0b1111000, 0b1111111,
	}
}

// seven has a word's bits by their places; place 0 has none.
func seven(w int) [8]int {
	var places [8]int
	for place := 1; place <= 7; place++ {
		places[place] = w % 2
		w /= 2
	}
	return places
}

// slowChecks tells how many ones the checks of 1, 2 and 4 have, their places written out.
func slowChecks(p [8]int) (one, two, four int) {
	return p[1] + p[3] + p[5] + p[7], p[2] + p[3] + p[6] + p[7], p[4] + p[5] + p[6] + p[7]
}

// slowRead is Read in another way than the program's: each check is counted by itself.
func slowRead(w int) (n, place int) {
	p := seven(w)
	one, two, four := slowChecks(p)
	place = one%2 + two%2*2 + four%2*4
	if place != 0 {
		p[place] = 1 - p[place]
	}
	return p[3] + p[5]*2 + p[6]*4 + p[7]*8, place
}

// TestWriteByHand (4.1): each number's word.
func TestWriteByHand(t *testing.T) {
	for n, word := range wordsByHand() {
		wantWrite(t, n, word, api.OK)
	}
}

// TestWriteChecks (4.1): each check of a word has an even number of ones.
func TestWriteChecks(t *testing.T) {
	for n := range 16 {
		w, err := Write(n)
		one, two, four := slowChecks(seven(w))
		if err != nil || one%2 != 0 || two%2 != 0 || four%2 != 0 {
			t.Errorf("Write(%d): got %d, %v, with checks of %d, %d and %d ones", n, w, err, one, two, four)
		}
	}
}

// TestWritePlaces (4.1): a number's bits stand at places 3, 5, 6 and 7, from the lowest on, and a word has seven bits.
func TestWritePlaces(t *testing.T) {
	for n := range 16 {
		w, err := Write(n)
		p := seven(w)
		if err != nil || p[3] != n%2 || p[5] != n/2%2 || p[6] != n/4%2 || p[7] != n/8 {
			t.Errorf("Write(%d): got %d, %v, with %v by places", n, w, err, p)
		}
		if w < 0 || w > 127 {
			t.Errorf("Write(%d): %d is no word of seven bits", n, w)
		}
	}
}

// TestWriteWrong (4.1, P1): the edges just inside and just outside, and numbers far off, also such as end in fit bits.
func TestWriteWrong(t *testing.T) {
	wantWrite(t, 0, 0, api.OK)
	wantWrite(t, 15, 127, api.OK)
	for _, n := range []int{
		-1, 16, -2, 17, -15, -16, 31, 127, 128, 1_000, 1<<32 + 5, -1 << 32,
		math.MinInt32, math.MaxInt32, math.MinInt, math.MinInt + 1, math.MaxInt,
	} {
		wantWrite(t, n, 0, api.ErrRange)
	}
}

// TestReadByHand (4.1): words that can be read on paper.
func TestReadByHand(t *testing.T) {
	for _, c := range [][3]int{
		{0, 0, 0}, {127, 15, 0}, {7, 1, 0},
		{1, 0, 1}, {2, 0, 2}, {4, 0, 3}, {8, 0, 4}, {16, 0, 5}, {32, 0, 6}, {64, 0, 7},
		{126, 15, 1}, {125, 15, 2}, {123, 15, 3}, {119, 15, 4}, {111, 15, 5}, {95, 15, 6}, {63, 15, 7},
		// Two bits of the word of 0 were turned: the checks tell a third place, and it is turned as well.
		{3, 1, 3}, {5, 1, 2}, {6, 1, 1}, {96, 12, 1}, {68, 9, 4},
	} {
		wantRead(t, c[0], c[1], c[2], api.OK)
	}
}

// TestReadAll (4.1): each word, by another way.
func TestReadAll(t *testing.T) {
	for w := range 128 {
		n, place := slowRead(w)
		wantRead(t, w, n, place, api.OK)
	}
}

// TestReadBack (4.1): what Write made is read back, as it is and whichever one bit of it was turned.
func TestReadBack(t *testing.T) {
	for n := range 16 {
		w, err := Write(n)
		wantError(t, "Write", n, err, api.OK)
		wantRead(t, w, n, 0, api.OK)
		worth := 1
		for place := 1; place <= 7; place++ {
			wantRead(t, w^worth, n, place, api.OK)
			worth *= 2
		}
	}
}

// TestReadNone (4.1): the words in which no check is odd are those that Write makes, and no others.
func TestReadNone(t *testing.T) {
	made := make(map[int]int)
	for n, word := range wordsByHand() {
		made[word] = n
	}
	for w := range 128 {
		_, place, err := Read(w)
		if _, ok := made[w]; err != nil || (place == 0) != ok {
			t.Errorf("Read(%d): place %d, %v, made by Write: %v", w, place, err, ok)
		}
	}
}

// TestReadWrong (4.1, P1): the edges just inside and just outside, and numbers far off, also such as end in fit bits.
func TestReadWrong(t *testing.T) {
	wantRead(t, 0, 0, 0, api.OK)
	wantRead(t, 127, 15, 0, api.OK)
	for _, w := range []int{
		-1, 128, -2, 129, -127, -128, 255, 256, 1_000, 1<<32 + 7, -1 << 32,
		math.MinInt32, math.MaxInt32, math.MinInt, math.MinInt + 1, math.MaxInt,
	} {
		wantRead(t, w, 0, 0, api.ErrRange)
	}
}

// TestSameAgain (P2): what a call answers hangs on no call before, also not on one that was wrong.
func TestSameAgain(t *testing.T) {
	for range 2 {
		wantWrite(t, 9, 76, api.OK)
		wantWrite(t, 16, 0, api.ErrRange)
		wantRead(t, 108, 9, 6, api.OK)
		wantRead(t, 128, 0, 0, api.ErrRange)
	}
}
