package galois

import (
	"math"
	"slices"
	"testing"

	"platterhold/api"
	"platterhold/plain"
)

// wantByte asks for a byte and an error; with an error the byte is 0, and nil alone stands for none.
func wantByte(t *testing.T, what string, got int, err error, want int, wantNo api.Errno) {
	t.Helper()
	if told := plain.Told(err); told != wantNo {
		t.Errorf("%s: error %v, want %v", what, told, wantNo)
	}
	if (err == nil) != (wantNo == api.OK) {
		t.Errorf("%s: error is nil: %v, want %v", what, err == nil, wantNo == api.OK)
	}
	if got != want {
		t.Errorf("%s: got %d, want %d", what, got, want)
	}
}

// noBytes are numbers just below and just above what may be, and far from it.
func noBytes() []int {
	return []int{-1, api.MaxByte + 1, 285, -api.MaxByte, 1 << 32, math.MinInt, math.MaxInt}
}

// slowTimes is a product in another way than the program's: a is doubled step by step, and kept a byte all along.
func slowTimes(a, b int) int {
	sum := 0
	for ; b > 0; b /= 2 {
		if b%2 == 1 {
			sum ^= a
		}
		a *= 2
		if a >= 256 {
			a ^= 285
		}
	}
	return sum
}

// slowPower is 1, n times times a.
func slowPower(a, n int) int {
	p := 1
	for range n {
		p = slowTimes(p, a)
	}
	return p
}

// slowAt works out a row of factors from its highest power down.
func slowAt(factors []int, x int) int {
	sum := 0
	for _, factor := range slices.Backward(factors) {
		sum = slowTimes(sum, x) ^ factor
	}
	return sum
}

// TestMulByHand (2.1): products that can be worked out on paper.
func TestMulByHand(t *testing.T) {
	for _, c := range [][3]int{
		{2, 128, 29}, {128, 2, 29}, {4, 128, 58}, {3, 7, 9}, {16, 16, 29},
		{0, 0, 0}, {0, 255, 0}, {255, 0, 0}, {1, 255, 255}, {255, 1, 255},
		{255, 255, 226}, {128, 128, 19}, {254, 255, 29}, {2, 142, 1},
	} {
		got, err := Mul(c[0], c[1])
		wantByte(t, "Mul", got, err, c[2], api.OK)
	}
}

// TestMulAll (2.1): every product, by another way.
func TestMulAll(t *testing.T) {
	for a := range api.MaxByte + 1 {
		for b := range api.MaxByte + 1 {
			got, err := Mul(a, b)
			if want := slowTimes(a, b); got != want || err != nil {
				t.Fatalf("Mul(%d, %d): got %d, %v, want %d", a, b, got, err, want)
			}
		}
	}
}

// TestMulWrong (2.1): a number that is no byte, on either side or on both.
func TestMulWrong(t *testing.T) {
	for _, no := range noBytes() {
		for _, c := range [][2]int{{no, 0}, {0, no}, {no, 255}, {255, no}, {no, no}} {
			got, err := Mul(c[0], c[1])
			wantByte(t, "Mul", got, err, 0, api.ErrRange)
		}
	}
}

// TestDivByHand (2.1): quotients that can be worked out on paper.
func TestDivByHand(t *testing.T) {
	for _, c := range [][3]int{
		{29, 2, 128}, {29, 128, 2}, {9, 3, 7}, {1, 2, 142}, {1, 1, 1},
		{0, 1, 0}, {0, 255, 0}, {255, 1, 255}, {255, 255, 1}, {226, 255, 255},
	} {
		got, err := Div(c[0], c[1])
		wantByte(t, "Div", got, err, c[2], api.OK)
	}
}

// TestDivAll (2.1): Mul of every quotient with its divisor is what was divided.
func TestDivAll(t *testing.T) {
	for a := range api.MaxByte + 1 {
		for b := 1; b <= api.MaxByte; b++ {
			got, err := Div(a, b)
			if err != nil || got < 0 || got > api.MaxByte || slowTimes(got, b) != a {
				t.Fatalf("Div(%d, %d): got %d, %v", a, b, got, err)
			}
		}
	}
}

// TestDivWrong (2.1): a divisor that is 0, a number that is no byte, and which of the two is told.
func TestDivWrong(t *testing.T) {
	for _, a := range []int{0, 1, 128, api.MaxByte} {
		got, err := Div(a, 0)
		wantByte(t, "Div by 0", got, err, 0, api.ErrNone)
	}
	for _, no := range noBytes() {
		for _, c := range [][2]int{{no, 1}, {1, no}, {0, no}, {no, no}} {
			got, err := Div(c[0], c[1])
			wantByte(t, "Div", got, err, 0, api.ErrRange)
		}
		got, err := Div(no, 0)
		wantByte(t, "Div of no byte by 0", got, err, 0, api.ErrRange)
	}
}

// TestPowByHand (2.1): powers that can be worked out on paper, and powers of 0.
func TestPowByHand(t *testing.T) {
	for _, c := range [][3]int{
		{0, 0, 1}, {0, 1, 0}, {0, 2, 0}, {0, api.MaxValue, 0},
		{1, 0, 1}, {1, 1, 1}, {1, api.MaxValue, 1},
		{2, 0, 1}, {2, 1, 2}, {2, 7, 128}, {2, 8, 29}, {2, 254, 142}, {2, 255, 1}, {2, 256, 2},
		{255, 0, 1}, {255, 1, 255}, {255, 2, 226}, {255, 255, 1},
	} {
		got, err := Pow(c[0], c[1])
		wantByte(t, "Pow", got, err, c[2], api.OK)
	}
}

// TestPowAll (2.1): every byte and every power that may be.
func TestPowAll(t *testing.T) {
	for a := range api.MaxByte + 1 {
		want := 1
		for n := range api.MaxValue + 1 {
			got, err := Pow(a, n)
			if got != want || err != nil {
				t.Fatalf("Pow(%d, %d): got %d, %v, want %d", a, n, got, err, want)
			}
			want = slowTimes(want, a)
		}
	}
}

// TestPowWrong (2.1): a number that is no byte, and a power that is none.
func TestPowWrong(t *testing.T) {
	for _, n := range []int{-1, api.MaxValue + 1, math.MinInt, math.MaxInt} {
		for _, a := range []int{0, 1, 2, api.MaxByte, -1, api.MaxByte + 1} {
			got, err := Pow(a, n)
			wantByte(t, "Pow to no power", got, err, 0, api.ErrRange)
		}
	}
	for _, no := range noBytes() {
		for _, n := range []int{0, 1, api.MaxValue} {
			got, err := Pow(no, n)
			wantByte(t, "Pow of no byte", got, err, 0, api.ErrRange)
		}
	}
}

// factorsOf makes so many factors, 0 and MaxByte among them where there are enough.
func factorsOf(many int) []int {
	factors := make([]int, many)
	for i := range factors {
		factors[i] = (i*85 + 170) % (api.MaxByte + 1)
	}
	return factors
}

// TestAtByHand (2.2): sums that can be worked out on paper, and edges.
func TestAtByHand(t *testing.T) {
	for _, c := range []struct {
		name    string
		factors []int
		x, want int
	}{
		{"nil", nil, 7, 0},
		{"no factor", []int{}, api.MaxByte, 0},
		{"no factor at 0", nil, 0, 0},
		{"one factor", []int{9}, 200, 9},
		{"one factor at 0", []int{9}, 0, 9},
		{"the first alone at 0", []int{9, 8, 7}, 0, 9},
		{"all at 1", []int{9, 8, 7}, 1, 9 ^ 8 ^ 7},
		{"the place is the power", []int{0, 0, 1}, 2, 4},
		{"the first is the power 0", []int{1, 2, 4}, 2, 1 ^ 4 ^ 16},
		{"a power that is no byte", []int{0, 128}, 2, 29},
		{"greatest", []int{255, 255}, 255, 255 ^ 226},
		{"a power of 8", []int{0, 0, 0, 0, 0, 0, 0, 0, 1}, 2, 29},
	} {
		got, err := At(c.factors, c.x)
		wantByte(t, "At: "+c.name, got, err, c.want, api.OK)
	}
}

// TestAtAll (2.2): every length of a row at every byte, by another way.
func TestAtAll(t *testing.T) {
	for many := range api.MaxWidth + 1 {
		factors := factorsOf(many)
		for x := range api.MaxByte + 1 {
			got, err := At(factors, x)
			if want := slowAt(factors, x); got != want || err != nil {
				t.Fatalf("At(%v, %d): got %d, %v, want %d", factors, x, got, err, want)
			}
		}
	}
}

// TestAtPowers (2.2): a factor that stands alone is its Mul with the Pow of its place.
func TestAtPowers(t *testing.T) {
	for place := range api.MaxWidth {
		factors := make([]int, place+1)
		factors[place] = 201
		got, err := At(factors, 77)
		wantByte(t, "At", got, err, slowTimes(201, slowPower(77, place)), api.OK)
	}
}

// TestAtWrong (2.2): what may not be, and which error is told of several.
func TestAtWrong(t *testing.T) {
	full := factorsOf(api.MaxWidth + 1)
	fullWrong := factorsOf(api.MaxWidth + 1)
	fullWrong[0] = -1
	for _, c := range []struct {
		name    string
		factors []int
		x       int
		want    api.Errno
	}{
		{"one factor too many", full, 1, api.ErrFull},
		{"too many factors that are 0", make([]int, api.MaxWidth+1), 0, api.ErrFull},
		{"far too many", make([]int, 1000), 1, api.ErrFull},
		{"too many, one no byte", fullWrong, 1, api.ErrFull},
		{"too many, x no byte", full, -1, api.ErrFull},
		{"too many, and no byte at all", fullWrong, api.MaxByte + 1, api.ErrFull},
	} {
		got, err := At(c.factors, c.x)
		wantByte(t, "At: "+c.name, got, err, 0, c.want)
	}
	for _, no := range noBytes() {
		for place := range api.MaxWidth {
			factors := factorsOf(api.MaxWidth)
			factors[place] = no
			for _, x := range []int{0, 1, api.MaxByte, no} {
				got, err := At(factors, x)
				wantByte(t, "At: a factor no byte", got, err, 0, api.ErrRange)
			}
		}
		for _, many := range []int{0, 1, api.MaxWidth} {
			got, err := At(factorsOf(many), no)
			wantByte(t, "At: x no byte", got, err, 0, api.ErrRange)
		}
	}
}

// TestListsStay (P2, P4): factors are not written into, and nothing behind their length is read.
func TestListsStay(t *testing.T) {
	memory := []int{3, 141, 59, -1, 999, math.MinInt}
	before := slices.Clone(memory)
	factors := memory[:3]
	for range 2 {
		got, err := At(factors, 26)
		wantByte(t, "At", got, err, slowAt([]int{3, 141, 59}, 26), api.OK)
	}
	got, err := At(memory[:0], 26)
	wantByte(t, "At of none with memory behind", got, err, 0, api.OK)
	if _, err := At(memory, 26); plain.Told(err) != api.ErrRange {
		t.Errorf("At of wrong factors: error %v, want ErrRange", err)
	}
	if !slices.Equal(memory, before) {
		t.Errorf("factors are %v, were %v", memory, before)
	}
	factors[0] = 4
	got, err = At(factors, 26)
	wantByte(t, "At of changed factors", got, err, slowAt([]int{4, 141, 59}, 26), api.OK)
}
