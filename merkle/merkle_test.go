package merkle

import (
	"fmt"
	"math"
	"slices"
	"testing"

	"platterhold/api"
	"platterhold/plain"
)

// wantError asks for an error, for which nil alone stands for none.
func wantError(t *testing.T, what string, err error, want api.Errno) {
	t.Helper()
	if told := plain.Told(err); told != want {
		t.Errorf("%s: error %v, want %v", what, told, want)
	}
	if (err == nil) != (want == api.OK) {
		t.Errorf("%s: error is nil: %v, want %v", what, err == nil, want == api.OK)
	}
}

// wantSum asks for a sum and an error.
func wantSum(t *testing.T, what string, got int, err error, want int, wantNo api.Errno) {
	t.Helper()
	wantError(t, what, err, wantNo)
	if got != want {
		t.Errorf("%s: got %d, want %d", what, got, want)
	}
}

// wantLeaf asks for what Leaf tells of a number.
func wantLeaf(t *testing.T, v, want int, wantNo api.Errno) {
	t.Helper()
	got, err := Leaf(v)
	wantSum(t, fmt.Sprintf("Leaf(%d)", v), got, err, want, wantNo)
}

// wantRoot asks for what Root tells of values.
func wantRoot(t *testing.T, values []int, want int, wantNo api.Errno) {
	t.Helper()
	got, err := Root(values)
	wantSum(t, fmt.Sprintf("Root(%v)", values), got, err, want, wantNo)
}

// wantUp asks for what Up tells of a value and a way.
func wantUp(t *testing.T, v int, way []api.Side, want int, wantNo api.Errno) {
	t.Helper()
	got, err := Up(v, way)
	wantSum(t, fmt.Sprintf("Up(%d, %v)", v, way), got, err, want, wantNo)
}

// wantWay asks for what Way tells of values and a place; with an error there is no side at all.
func wantWay(t *testing.T, values []int, i int, want []api.Side, wantNo api.Errno) {
	t.Helper()
	what := fmt.Sprintf("Way(%v, %d)", values, i)
	got, err := Way(values, i)
	wantError(t, what, err, wantNo)
	if wantNo != api.OK && len(got) != 0 {
		t.Errorf("%s: got %v beside an error", what, got)
	}
	if !slices.Equal(got, want) {
		t.Errorf("%s: got %v, want %v", what, got, want)
	}
}

// wantWrong asks for one error of all that check values.
func wantWrong(t *testing.T, values []int, want api.Errno) {
	t.Helper()
	wantError(t, fmt.Sprintf("Check(%v)", values), Check(values), want)
	wantRoot(t, values, 0, want)
	wantWay(t, values, 0, nil, want)
}

// mustWay is the way of what may be.
func mustWay(t *testing.T, values []int, i int) []api.Side {
	t.Helper()
	way, err := Way(values, i)
	if err != nil {
		t.Fatalf("Way(%v, %d): %v", values, i, err)
	}
	return way
}

const kinds = 8

// valuesOf makes so many values, others for each kind; those of kind 0 are all 0, of kind 1 all MaxValue.
func valuesOf(many, kind int) []int {
	values := make([]int, many)
	for i := range values {
		switch kind {
		case 0:
			values[i] = 0
		case 1:
			values[i] = api.MaxValue
		case 2:
			values[i] = i
		default:
			values[i] = (kind*397 + i*i*131 + i*kind*59) % 1_001
		}
	}
	return values
}

// sidesOf makes so many sides of both kinds.
func sidesOf(many int) []api.Side {
	way := make([]api.Side, many)
	for i := range way {
		way[i] = api.Side{Left: i%3 != 1, Sum: (4_321 + i*i*977 + i*3_001) % 9_973}
	}
	return way
}

// slowLeaf is a Leaf in another way than the program's: the value is counted up to.
func slowLeaf(v int) int {
	sum := 3
	for range v {
		sum += 7
		for sum >= 9_973 {
			sum -= 9_973
		}
	}
	return sum
}

// slowBoth is the sum of two sums, in which nothing grows beyond what one of its steps adds.
func slowBoth(a, b int) int {
	sum := 11
	for range 31 {
		sum = (sum + a) % 9_973
	}
	for range 57 {
		sum = (sum + b) % 9_973
	}
	return sum
}

// slowTree is Root and Way in another way than the program's: level by level from the leaves up. On each level two
// and two neighbours are joined; one that is left over at the end goes up as it is.
func slowTree(values []int, i int) (int, []api.Side) {
	level := make([]int, len(values))
	for place, v := range values {
		level[place] = slowLeaf(v)
	}
	var way []api.Side
	for len(level) > 1 {
		if i%2 == 1 {
			way = append(way, api.Side{Left: true, Sum: level[i-1]})
		} else if i+1 < len(level) {
			way = append(way, api.Side{Left: false, Sum: level[i+1]})
		}
		var next []int
		for pair := range slices.Chunk(level, 2) {
			if len(pair) == 2 {
				next = append(next, slowBoth(pair[0], pair[1]))
			} else {
				next = append(next, pair[0])
			}
		}
		level, i = next, i/2
	}
	return level[0], way
}

// slowRoot is the root of slowTree.
func slowRoot(values []int) int {
	root, _ := slowTree(values, 0)
	return root
}

// noValues are numbers just outside of what a value may be, and far from it, also such as end in fit bits, or of
// which 7 times is a fit number again.
func noValues() []int {
	return []int{
		-1, 1_001, -2, 1_002, -1_000, 9_972, 9_973, -9_973, 1<<32 + 5, -1 << 32, 1<<63/7 + 1,
		math.MinInt32, math.MaxInt32, math.MinInt, math.MinInt + 1, math.MaxInt,
	}
}

// noSums are numbers just outside of what a sum may be, and far from it, also such as leave a fit number.
func noSums() []int {
	return []int{
		-1, 9_973, -2, 9_974, -9_972, -9_973, 19_946, 1<<32 + 5, -1 << 32,
		math.MinInt32, math.MaxInt32, math.MinInt, math.MinInt + 1, math.MaxInt,
	}
}

// TestNumbers (6.1, P3): the numbers that bound things, which the tests here write out.
func TestNumbers(t *testing.T) {
	if api.MaxLeaves != 16 || api.MaxSum != 9_972 || api.MaxValue != 1_000 {
		t.Fatalf("MaxLeaves %d, MaxSum %d, MaxValue %d", api.MaxLeaves, api.MaxSum, api.MaxValue)
	}
}

// TestLeafByHand (6.1): leaves that can be worked out on paper, the least and the greatest value among them.
func TestLeafByHand(t *testing.T) {
	for _, c := range [][2]int{{0, 3}, {1, 10}, {2, 17}, {100, 703}, {999, 6_996}, {1_000, 7_003}} {
		wantLeaf(t, c[0], c[1], api.OK)
	}
}

// TestLeafAll (6.1): each value, by another way.
func TestLeafAll(t *testing.T) {
	for v := range 1_001 {
		wantLeaf(t, v, slowLeaf(v), api.OK)
	}
}

// TestLeafWrong (6.1, P1): one more than MaxValue, one less than 0, and numbers far off.
func TestLeafWrong(t *testing.T) {
	for _, no := range noValues() {
		wantLeaf(t, no, 0, api.ErrRange)
	}
}

// TestNoValues (6.1, P4): there is no value, and nil is the same.
func TestNoValues(t *testing.T) {
	wantWrong(t, nil, api.ErrNone)
	wantWrong(t, []int{}, api.ErrNone)
}

// TestFull (6.1): MaxLeaves values may be, one more may not, whatever stands in them.
func TestFull(t *testing.T) {
	for kind := range kinds {
		for _, many := range []int{1, 15, 16} {
			values := valuesOf(many, kind)
			wantError(t, fmt.Sprintf("Check(%v)", values), Check(values), api.OK)
			root, way := slowTree(values, many-1)
			wantRoot(t, values, root, api.OK)
			wantWay(t, values, many-1, way, api.OK)
		}
		for _, many := range []int{17, 18, 32, 1_000} {
			wantWrong(t, valuesOf(many, kind), api.ErrFull)
		}
	}
}

// TestRange (6.1, P1): what is no value, at the first place, in the middle and at the last one; the edges are values.
func TestRange(t *testing.T) {
	for _, many := range []int{1, 2, 3, 8, 9, 15, 16} {
		for _, place := range []int{0, many / 2, many - 1} {
			for _, edge := range []int{0, 1_000} {
				values := valuesOf(many, 3)
				values[place] = edge
				wantError(t, fmt.Sprintf("Check(%v)", values), Check(values), api.OK)
				wantRoot(t, values, slowRoot(values), api.OK)
			}
			for _, no := range noValues() {
				values := valuesOf(many, 3)
				values[place] = no
				wantWrong(t, values, api.ErrRange)
				wantWay(t, values, many-1, nil, api.ErrRange)
			}
		}
	}
	for _, no := range noValues() {
		wantWrong(t, slices.Repeat([]int{no}, 16), api.ErrRange)
	}
}

// TestFullAheadOfRange (6.1, P3): of too many values, of which one or each is none, ErrFull is told.
func TestFullAheadOfRange(t *testing.T) {
	for _, no := range noValues() {
		for _, place := range []int{0, 8, 15, 16} {
			values := valuesOf(17, 4)
			values[place] = no
			wantWrong(t, values, api.ErrFull)
		}
		wantWrong(t, slices.Repeat([]int{no}, 17), api.ErrFull)
	}
}

// TestRootByHand (6.1): roots that can be worked out on paper.
func TestRootByHand(t *testing.T) {
	for _, c := range []struct {
		values []int
		want   int
	}{
		{[]int{0}, 3}, {[]int{1_000}, 7_003},
		// 31 * 3 + 57 * 3 + 11; then 31 * 3 + 57 * 10 + 11, and the other way round.
		{[]int{0, 0}, 275}, {[]int{0, 1}, 674}, {[]int{1, 0}, 492},
		// 31 * 674 + 57 * 17 + 11 is 21,874, and twice 9,973 is 19,946.
		{[]int{0, 1, 2}, 1_928},
		// 31 * 17 + 57 * 24 + 11 is 1,906; 31 * 674 + 57 * 1,906 + 11 is 129,547, and 12 times 9,973 is 119,676.
		{[]int{0, 1, 2, 3}, 9_871},
		// 31 * 9,871 + 57 * 31 + 11 is 307,779, and 30 times 9,973 is 299,190.
		{[]int{0, 1, 2, 3, 4}, 8_589},
	} {
		wantRoot(t, c.values, c.want, api.OK)
	}
}

// TestRootOfOne (6.1): of one value it is its Leaf.
func TestRootOfOne(t *testing.T) {
	for v := range 1_001 {
		wantRoot(t, []int{v}, slowLeaf(v), api.OK)
	}
}

// TestRootOfMany (6.1): each count of values that may be, by another way.
func TestRootOfMany(t *testing.T) {
	for many := 1; many <= 16; many++ {
		for kind := range 50 {
			values := valuesOf(many, kind)
			wantRoot(t, values, slowRoot(values), api.OK)
		}
	}
}

// TestRootOfFew (6.1): all short rows of small values, by another way.
func TestRootOfFew(t *testing.T) {
	for code := range 3 * 3 * 3 * 3 * 3 * 3 {
		values := make([]int, 6)
		for place := range values {
			values[place], code = code%3, code/3
		}
		for many := 1; many <= 6; many++ {
			wantRoot(t, values[:many], slowRoot(values[:many]), api.OK)
		}
	}
}

// TestRootOfParts (6.1): a root is the sum of the roots of its two parts, for each count cut as it is written here.
func TestRootOfParts(t *testing.T) {
	first := [17]int{2: 1, 3: 2, 4: 2, 5: 4, 6: 4, 7: 4, 8: 4, 9: 8, 10: 8, 11: 8, 12: 8, 13: 8, 14: 8, 15: 8, 16: 8}
	for many := 2; many <= 16; many++ {
		for kind := range kinds {
			values := valuesOf(many, kind)
			left, err := Root(values[:first[many]])
			wantError(t, "Root of the first part", err, api.OK)
			right, err := Root(values[first[many]:])
			wantError(t, "Root of the other part", err, api.OK)
			wantRoot(t, values, slowBoth(left, right), api.OK)
		}
	}
}

// TestSameCuts (6.1, 6.2): when one value is another one, the cuts stay. So of all the sides of another value's way
// one alone has another sum, as one part alone has the value, and of its own way none has; the root is another one.
func TestSameCuts(t *testing.T) {
	for many := 1; many <= 16; many++ {
		values := valuesOf(many, 5)
		for changed := range values {
			others := slices.Clone(values)
			others[changed] = (values[changed] + 333) % 1_001
			if slowRoot(values) == slowRoot(others) {
				t.Fatalf("%v and %v have one root", values, others)
			}
			wantRoot(t, others, slowRoot(others), api.OK)
			for i := range values {
				want := 1
				if i == changed {
					want = 0
				}
				if got := otherSums(t, mustWay(t, values, i), mustWay(t, others, i)); got != want {
					t.Errorf("%v, then %v: %d sides of the way of %d are others", values, others, got, i)
				}
			}
		}
	}
}

// otherSums counts the sides of two ways that have other sums; all stand on the same hand.
func otherSums(t *testing.T, was, is []api.Side) int {
	t.Helper()
	if len(was) != len(is) {
		t.Fatalf("%d sides, then %d", len(was), len(is))
	}
	many := 0
	for k := range was {
		if was[k].Left != is[k].Left {
			t.Errorf("side %d: left %v, then %v", k, was[k].Left, is[k].Left)
		}
		if was[k].Sum != is[k].Sum {
			many++
		}
	}
	return many
}

// TestWayByHand (6.2): ways that can be worked out on paper, with sums of TestRootByHand.
func TestWayByHand(t *testing.T) {
	five := []int{0, 1, 2, 3, 4}
	for _, c := range []struct {
		values []int
		i      int
		want   []api.Side
	}{
		{[]int{0, 1}, 0, []api.Side{{Left: false, Sum: 10}}},
		{[]int{0, 1}, 1, []api.Side{{Left: true, Sum: 3}}},
		{[]int{0, 1, 2}, 0, []api.Side{{Left: false, Sum: 10}, {Left: false, Sum: 17}}},
		{[]int{0, 1, 2}, 1, []api.Side{{Left: true, Sum: 3}, {Left: false, Sum: 17}}},
		{[]int{0, 1, 2}, 2, []api.Side{{Left: true, Sum: 674}}},
		{five, 0, []api.Side{{Left: false, Sum: 10}, {Left: false, Sum: 1_906}, {Left: false, Sum: 31}}},
		{five, 1, []api.Side{{Left: true, Sum: 3}, {Left: false, Sum: 1_906}, {Left: false, Sum: 31}}},
		{five, 2, []api.Side{{Left: false, Sum: 24}, {Left: true, Sum: 674}, {Left: false, Sum: 31}}},
		{five, 3, []api.Side{{Left: true, Sum: 17}, {Left: true, Sum: 674}, {Left: false, Sum: 31}}},
		{five, 4, []api.Side{{Left: true, Sum: 9_871}}},
	} {
		wantWay(t, c.values, c.i, c.want, api.OK)
	}
}

// TestWayOfOne (6.2): the way of one value alone has no side.
func TestWayOfOne(t *testing.T) {
	for _, v := range []int{0, 1, 500, 1_000} {
		wantWay(t, []int{v}, 0, nil, api.OK)
	}
}

// TestWayAll (6.2): each place of each count, by another way.
func TestWayAll(t *testing.T) {
	for many := 1; many <= 16; many++ {
		for kind := range kinds {
			values := valuesOf(many, kind)
			for i := range values {
				_, way := slowTree(values, i)
				wantWay(t, values, i, way, api.OK)
			}
		}
	}
}

// TestLowestCutFirst (6.2): in a whole tree of 16 the sides are roots of 1, 2, 4 and 8 values, in this order.
func TestLowestCutFirst(t *testing.T) {
	values := valuesOf(16, 6)
	for i := range values {
		var want []api.Side
		for _, size := range []int{1, 2, 4, 8} {
			other := i / size * size
			left := i/size%2 == 1
			if left {
				other -= size
			} else {
				other += size
			}
			sum, err := Root(values[other : other+size])
			wantError(t, "Root of a side", err, api.OK)
			want = append(want, api.Side{Left: left, Sum: sum})
		}
		wantWay(t, values, i, want, api.OK)
	}
}

// TestWayNoPlace (6.2): -1, how many there are, and places far off, for each count.
func TestWayNoPlace(t *testing.T) {
	for many := 1; many <= 16; many++ {
		values := valuesOf(many, 7)
		for _, i := range []int{-1, many, many + 1, -many, 1_000, 1 << 32, -1 << 32, math.MinInt, math.MaxInt} {
			wantWay(t, values, i, nil, api.ErrRange)
		}
	}
	// Behind the length there is memory, but no value.
	wantWay(t, valuesOf(16, 7)[:4], 4, nil, api.ErrRange)
}

// TestWayValuesAheadOfPlace (6.2, P3): where values and the place are both wrong, what Check tells is told.
func TestWayValuesAheadOfPlace(t *testing.T) {
	for _, i := range []int{-1, 0, 17, 1_000, math.MinInt, math.MaxInt} {
		wantWay(t, nil, i, nil, api.ErrNone)
		wantWay(t, []int{}, i, nil, api.ErrNone)
		wantWay(t, valuesOf(17, 7), i, nil, api.ErrFull)
		wantWay(t, slices.Repeat([]int{-1}, 17), i, nil, api.ErrFull)
		wantWay(t, []int{1, 1_001}, i, nil, api.ErrRange)
	}
}

// TestUpByHand (6.2): ways that can be gone on paper, of no side, of both kinds, and with the edges of a sum.
func TestUpByHand(t *testing.T) {
	for _, c := range []struct {
		v    int
		way  []api.Side
		want int
	}{
		{0, nil, 3}, {0, []api.Side{}, 3}, {1_000, nil, 7_003},
		{0, []api.Side{{Left: false, Sum: 10}}, 674},
		{0, []api.Side{{Left: true, Sum: 10}}, 492},
		{0, []api.Side{{Left: false, Sum: 10}, {Left: false, Sum: 17}}, 1_928},
		{2, []api.Side{{Left: true, Sum: 674}}, 1_928},
		// 31 * 3 + 11; then 57 * 3 + 11.
		{0, []api.Side{{Left: false, Sum: 0}}, 104},
		{0, []api.Side{{Left: true, Sum: 0}}, 182},
		// MaxSum is as one less than 0: 57, then 31, is taken away.
		{0, []api.Side{{Left: false, Sum: 9_972}}, 47},
		{0, []api.Side{{Left: true, Sum: 9_972}}, 151},
	} {
		wantUp(t, c.v, c.way, c.want, api.OK)
	}
}

// TestUpAll (6.2): each count of sides that may be, from each of some values, by another way.
func TestUpAll(t *testing.T) {
	for many := range 17 {
		for _, v := range []int{0, 1, 345, 999, 1_000} {
			way := sidesOf(many)
			want := slowLeaf(v)
			for _, side := range way {
				if side.Left {
					want = slowBoth(side.Sum, want)
				} else {
					want = slowBoth(want, side.Sum)
				}
			}
			wantUp(t, v, way, want, api.OK)
		}
	}
}

// TestUpLeadsToRoot (6.2): from each value its Way leads to the Root, and from another value to that of values in
// which it stands instead.
func TestUpLeadsToRoot(t *testing.T) {
	for many := 1; many <= 16; many++ {
		for kind := range kinds {
			values := valuesOf(many, kind)
			for i, v := range values {
				way := mustWay(t, values, i)
				wantUp(t, v, way, slowRoot(values), api.OK)
				others := slices.Clone(values)
				others[i] = (v + 1) % 1_001
				wantUp(t, others[i], way, slowRoot(others), api.OK)
			}
		}
	}
}

// TestUpFull (6.2, P3): MaxLeaves sides may be, one more may not; that is told ahead of all else.
func TestUpFull(t *testing.T) {
	wantUp(t, 838, make([]api.Side, 16), slowNoughts(838, 16), api.OK)
	for _, many := range []int{17, 18, 32, 1_000} {
		wantUp(t, 838, make([]api.Side, many), 0, api.ErrFull)
		wantUp(t, 838, sidesOf(many), 0, api.ErrFull)
		for _, no := range noValues() {
			wantUp(t, no, sidesOf(many), 0, api.ErrFull)
		}
		for _, no := range noSums() {
			for _, place := range []int{0, many / 2, many - 1} {
				way := sidesOf(many)
				way[place].Sum = no
				wantUp(t, 838, way, 0, api.ErrFull)
				wantUp(t, -1, way, 0, api.ErrFull)
			}
		}
	}
}

// slowNoughts is a value's way up by so many sides whose sum is 0, all on the right.
func slowNoughts(v, many int) int {
	sum := slowLeaf(v)
	for range many {
		sum = slowBoth(sum, 0)
	}
	return sum
}

// TestUpNoValue (6.2, P3): v is none, whatever the sides are, and also where a sum is none.
func TestUpNoValue(t *testing.T) {
	wrong := sidesOf(3)
	wrong[1].Sum = -1
	for _, no := range noValues() {
		wantUp(t, no, nil, 0, api.ErrRange)
		wantUp(t, no, sidesOf(1), 0, api.ErrRange)
		wantUp(t, no, sidesOf(16), 0, api.ErrRange)
		wantUp(t, no, wrong, 0, api.ErrRange)
	}
}

// TestUpNoSum (6.2): a sum just inside and just outside, at the first place, in the middle and at the last one, on
// both hands.
func TestUpNoSum(t *testing.T) {
	for _, many := range []int{1, 2, 3, 15, 16} {
		for _, place := range []int{0, many / 2, many - 1} {
			for _, left := range []bool{false, true} {
				way := sidesOf(many)
				for _, edge := range []int{0, 9_972} {
					way[place] = api.Side{Left: left, Sum: edge}
					got, err := Up(1_000, way)
					wantError(t, fmt.Sprintf("Up(1000, %v)", way), err, api.OK)
					if got < 0 || got > 9_972 {
						t.Errorf("Up(1000, %v): %d is no sum", way, got)
					}
				}
				for _, no := range noSums() {
					way[place] = api.Side{Left: left, Sum: no}
					wantUp(t, 1_000, way, 0, api.ErrRange)
				}
			}
		}
	}
}

// TestListsAreLeft (P2, P4): a list that is handed in is left as it was, and what lies behind it neither read nor
// written, whether what is told is an error or not.
func TestListsAreLeft(t *testing.T) {
	behind := []int{-1, 1_001, math.MinInt, 77}
	for _, values := range [][]int{{}, {0}, {1, 7}, {-1}, {5, 1_001, 5}, valuesOf(7, 3), valuesOf(16, 3), valuesOf(17, 3)} {
		all := slices.Concat(values, behind)
		given := all[:len(values)]
		wantError(t, "Check with memory behind", Check(given), plain.Told(Check(slices.Clone(values))))
		root, err := Root(slices.Clone(values))
		wantRoot(t, given, root, plain.Told(err))
		for i := -1; i <= len(values); i++ {
			way, err := Way(slices.Clone(values), i)
			wantWay(t, given, i, way, plain.Told(err))
		}
		if !slices.Equal(all, slices.Concat(values, behind)) {
			t.Errorf("%v is changed: %v", values, all)
		}
	}
}

// TestWaysAreLeft (P2, P4): the same of a way.
func TestWaysAreLeft(t *testing.T) {
	behind := []api.Side{{Left: true, Sum: -1}, {Left: false, Sum: 9_973}, {Left: true, Sum: 5}}
	wrong := sidesOf(5)
	wrong[2].Sum = -1
	for _, way := range [][]api.Side{{}, sidesOf(1), sidesOf(5), wrong, sidesOf(16), sidesOf(17)} {
		for _, v := range []int{-1, 345} {
			all := slices.Concat(way, behind)
			up, err := Up(v, slices.Clone(way))
			wantUp(t, v, all[:len(way)], up, plain.Told(err))
			if !slices.Equal(all, slices.Concat(way, behind)) {
				t.Errorf("%v is changed: %v", way, all)
			}
		}
	}
}

// TestWaysAreFresh (P2): a way is the caller's, and shares no memory with another one, also not behind its length.
func TestWaysAreFresh(t *testing.T) {
	values := valuesOf(16, 4)
	_, want := slowTree(values, 5)
	one, two := mustWay(t, values, 5), mustWay(t, values, 5)
	for k := range one {
		one[k] = api.Side{Left: !one[k].Left, Sum: -1}
	}
	one = append(one, one...)
	if !slices.Equal(two, want) {
		t.Errorf("a way is %v when another one was changed, want %v", two, want)
	}
	wantWay(t, values, 5, want, api.OK)
	// Values are not kept: a way stays when they change, and the next one is another.
	values[4] = 0
	if !slices.Equal(two, want) {
		t.Errorf("a way is %v when values were changed, want %v", two, want)
	}
	_, want = slowTree(values, 5)
	wantWay(t, values, 5, want, api.OK)
}

// TestSameAgain (P2): what a call answers hangs on no call before, also not on one that was wrong.
func TestSameAgain(t *testing.T) {
	for range 2 {
		wantLeaf(t, 1, 10, api.OK)
		wantLeaf(t, -1, 0, api.ErrRange)
		wantRoot(t, []int{0, 1, 2}, 1_928, api.OK)
		wantRoot(t, []int{0, 1, -1}, 0, api.ErrRange)
		wantWay(t, []int{0, 1, 2}, 2, []api.Side{{Left: true, Sum: 674}}, api.OK)
		wantWay(t, []int{0, 1, 2}, 3, nil, api.ErrRange)
		wantUp(t, 2, []api.Side{{Left: true, Sum: 674}}, 1_928, api.OK)
		wantUp(t, 2, make([]api.Side, 17), 0, api.ErrFull)
		wantError(t, "Check(nil)", Check(nil), api.ErrNone)
		wantError(t, "Check([0])", Check([]int{0}), api.OK)
	}
}

// TestErrorNumbers (P3): the errors that this package tells have the numbers that the document gives them.
func TestErrorNumbers(t *testing.T) {
	for _, c := range []struct {
		values []int
		want   int
	}{
		{[]int{0}, 0}, {[]int{1_001}, 1}, {make([]int, 17), 4}, {nil, 5},
	} {
		if got := int(plain.Told(Check(c.values))); got != c.want {
			t.Errorf("Check(%v): number %d, want %d", c.values, got, c.want)
		}
	}
	if _, err := Up(0, make([]api.Side, 17)); int(plain.Told(err)) != 4 {
		t.Errorf("Up of 17 sides: %v, want number 4", err)
	}
}
