package extent

import (
	"fmt"
	"math"
	"slices"
	"testing"

	"platterhold/api"
	"platterhold/plain"
)

// run is short for what many tables here are made of.
type run = api.Run

// at is a run: from a place on, so many.
func at(from, size int) run {
	return run{From: from, Size: size}
}

// set has runs, of each of which it is told where it begins and how many places it has.
func set(numbers ...int) (l []run) {
	for pair := range slices.Chunk(numbers, 2) {
		l = append(l, at(pair[0], pair[1]))
	}
	return l
}

// marks are a set in another way than the program's: each place has one.
type marks [1_000]bool

// all sets the marks from a place up to an end.
func (m *marks) all(from, end int, mark bool) {
	for p := from; p < end; p++ {
		m[p] = mark
	}
}

// marksOf has the marks of runs that may be.
func marksOf(l []run) (m marks) {
	for _, r := range l {
		m.all(r.From, r.From+r.Size, true)
	}
	return m
}

// runs has the marked places as runs: a run begins where the place ahead has no mark.
func (m *marks) runs() (l []run) {
	for p, mark := range m {
		if !mark {
			continue
		}
		if p == 0 || !m[p-1] {
			l = append(l, run{From: p})
		}
		l[len(l)-1].Size++
	}
	return l
}

// size counts the marks.
func (m *marks) size() (size int) {
	for _, mark := range m {
		if mark {
			size++
		}
	}
	return size
}

// slowRun tells whether a run may be: its first place is looked for, and then the places from there on are counted.
func slowRun(r run) bool {
	for from := range 1_000 {
		if from != r.From {
			continue
		}
		size := 0
		for range 1_000 - from {
			size++
			if size == r.Size {
				return true
			}
		}
	}
	return false
}

// slowCheck tells what is wrong with a set: between two runs that may be a place is looked for.
func slowCheck(l []run) api.Errno {
	if len(l) > 16 {
		return api.ErrFull
	}
	for i, r := range l {
		if !slowRun(r) {
			return api.ErrRange
		}
		between := i == 0
		for p := range 1_000 {
			between = between || p > l[i-1].From+l[i-1].Size-1 && p < r.From
		}
		if !between {
			return api.ErrShape
		}
	}
	return api.OK
}

// slowChange is Add, where the mark is true, or Cut, by marks.
func slowChange(l []run, r run, mark bool) ([]run, api.Errno) {
	if no := slowCheck(l); no != api.OK {
		return nil, no
	}
	if !slowRun(r) {
		return nil, api.ErrRange
	}
	m := marksOf(l)
	m.all(r.From, r.From+r.Size, mark)
	if many := m.runs(); len(many) <= 16 {
		return many, api.OK
	}
	return nil, api.ErrFull
}

// wantError asks for an error, for which nil alone stands for none.
func wantError(t *testing.T, what string, err error, want api.Errno) {
	t.Helper()
	if told := plain.Told(err); told != want {
		t.Errorf("%s: error %v, want %v", what, told, want)
	}
	if (err == nil) != (want == api.OK) {
		t.Errorf("%s: error is nil: %v, want %v", what, err == nil, want == api.OK)
	}
}

// wantCheck asks for what Check tells.
func wantCheck(t *testing.T, l []run, want api.Errno) {
	t.Helper()
	wantError(t, fmt.Sprintf("Check(%v)", l), Check(l), want)
}

// wantSet asks for a set and an error; with an error there is no run at all, and a set passes Check.
func wantSet(t *testing.T, what string, got []run, err error, want []run, wantNo api.Errno) {
	t.Helper()
	wantError(t, what, err, wantNo)
	if wantNo != api.OK && len(got) != 0 {
		t.Errorf("%s: got %v beside an error", what, got)
	}
	if !slices.Equal(got, want) {
		t.Errorf("%s: got %v, want %v", what, got, want)
	}
	wantCheck(t, got, api.OK)
}

// wantAdd asks for what Add answers.
func wantAdd(t *testing.T, l []run, r run, want []run, wantNo api.Errno) {
	t.Helper()
	got, err := Add(l, r)
	wantSet(t, fmt.Sprintf("Add(%v, %v)", l, r), got, err, want, wantNo)
}

// wantCut asks for what Cut answers.
func wantCut(t *testing.T, l []run, r run, want []run, wantNo api.Errno) {
	t.Helper()
	got, err := Cut(l, r)
	wantSet(t, fmt.Sprintf("Cut(%v, %v)", l, r), got, err, want, wantNo)
}

// wantHas asks for what Has answers.
func wantHas(t *testing.T, l []run, p int, want bool, wantNo api.Errno) {
	t.Helper()
	what := fmt.Sprintf("Has(%v, %d)", l, p)
	got, err := Has(l, p)
	wantError(t, what, err, wantNo)
	if got != want {
		t.Errorf("%s: got %v, want %v", what, got, want)
	}
}

// wantSize asks for what Size answers.
func wantSize(t *testing.T, l []run, want int, wantNo api.Errno) {
	t.Helper()
	what := fmt.Sprintf("Size(%v)", l)
	got, err := Size(l)
	wantError(t, what, err, wantNo)
	if got != want {
		t.Errorf("%s: got %d, want %d", what, got, want)
	}
}

// wantWrong asks for one error of all calls that check a set, whatever they are asked besides.
func wantWrong(t *testing.T, l []run, want api.Errno) {
	t.Helper()
	wantCheck(t, l, want)
	for _, r := range set(0, 1, 0, 1_000, 500, 3, 999, 1) {
		wantAdd(t, l, r, nil, want)
		wantCut(t, l, r, nil, want)
	}
	for _, p := range []int{-1, 0, 1, 500, 999, 1_000} {
		wantHas(t, l, p, false, want)
	}
	wantSize(t, l, 0, want)
}

// wantPlaces asks of a set that may be, place by place, for what stands in marks, and for how many there are.
func wantPlaces(t *testing.T, l []run, m *marks) {
	t.Helper()
	for p := -2; p < 1_002; p++ {
		want := p >= 0 && p < 1_000 && m[p]
		if got, err := Has(l, p); got != want || err != nil {
			t.Errorf("Has(%v, %d): %v, %v, want %v", l, p, got, err, want)
		}
	}
	wantSize(t, l, m.size(), api.OK)
}

// wantBoth asks for what Add and Cut answer by marks.
func wantBoth(t *testing.T, l []run, r run) {
	t.Helper()
	want, no := slowChange(l, r, true)
	wantAdd(t, l, r, want, no)
	want, no = slowChange(l, r, false)
	wantCut(t, l, r, want, no)
}

// spread has so many runs of a size, from a place on, each so far behind the beginning of the one ahead.
func spread(many, from, size, far int) []run {
	l := make([]run, many)
	for i := range l {
		l[i] = at(from+i*far, size)
	}
	return l
}

// with is a list in which another run stands at one of its places.
func with(l []run, i int, r run) []run {
	l = slices.Clone(l)
	l[i] = r
	return l
}

// noPlaces are numbers just outside of what a place may be, and far from it, also such as end in fit bits.
func noPlaces() []int {
	return []int{
		-1, 1_000, -2, 1_001, -999, -1_000, 2_000, 1<<32 + 5, -1 << 32, 1<<62 + 5,
		math.MinInt32, math.MaxInt32, math.MinInt, math.MinInt + 1, math.MinInt + 1_000,
		math.MaxInt - 1_000, math.MaxInt - 1, math.MaxInt,
	}
}

// noRuns are runs that have no place, or places that there are not, also such whose end, as it is reckoned, is a place.
func noRuns() []run {
	var l []run
	for _, from := range noPlaces() {
		for _, size := range []int{1, 2, 10, 999, 1_000, 1_001, 0, -1, math.MaxInt, math.MinInt} {
			l = append(l, at(from, size))
		}
	}
	for _, from := range []int{0, 1, 499, 998, 999} {
		for _, size := range []int{
			0, -1, -2, -1_000, 1_001 - from, 1_002 - from, 1_001, 2_000, 1<<32 + 1, -1<<32 + 1, 1 << 62,
			math.MinInt32, math.MaxInt32, math.MinInt, math.MinInt + 1, math.MaxInt - 999, math.MaxInt - 1, math.MaxInt,
		} {
			l = append(l, at(from, size))
		}
	}
	return append(l, at(-1, 2), at(-5, 10), at(-1, 1_001), at(math.MaxInt, math.MinInt+2), at(math.MinInt, math.MinInt+5))
}

// someSets are sets of many kinds.
func someSets() [][]run {
	return [][]run{
		nil,
		set(0, 1),
		set(999, 1),
		set(0, 1_000),
		set(0, 999),
		set(1, 999),
		set(400, 200),
		set(0, 1, 2, 1),
		set(0, 1, 999, 1),
		set(0, 499, 500, 500),
		set(3, 4, 10, 1, 12, 7, 300, 50, 990, 10),
		spread(15, 0, 1, 2),
		spread(15, 971, 1, 2),
		spread(16, 0, 1, 2),
		spread(16, 969, 1, 2),
		spread(16, 5, 20, 50),
		spread(16, 0, 61, 62),
		spread(16, 40, 3, 60),
	}
}

// TestNumbers (9.1, P3): the numbers that bound things, which the tests here write out.
func TestNumbers(t *testing.T) {
	if api.MaxRuns != 16 || api.MaxPlace != 1_000 {
		t.Fatalf("MaxRuns %d, MaxPlace %d", api.MaxRuns, api.MaxPlace)
	}
}

// TestSomeSets (9.1): sets that may be, asked for all that they answer.
func TestSomeSets(t *testing.T) {
	for _, l := range someSets() {
		wantCheck(t, l, api.OK)
		m := marksOf(l)
		wantPlaces(t, l, &m)
		if !slices.Equal(m.runs(), l) {
			t.Errorf("%v: its marks are those of %v", l, m.runs())
		}
	}
}

// TestNoRuns (9.1, P4): a set may have none, and nil is the same.
func TestNoRuns(t *testing.T) {
	for _, l := range [][]run{nil, {}} {
		wantCheck(t, l, api.OK)
		wantAdd(t, l, at(7, 3), set(7, 3), api.OK)
		wantAdd(t, l, at(0, 1_000), set(0, 1_000), api.OK)
		wantCut(t, l, at(7, 3), nil, api.OK)
		wantCut(t, l, at(0, 1_000), nil, api.OK)
		wantPlaces(t, l, &marks{})
		wantSize(t, l, 0, api.OK)
	}
}

// TestCheckFull (9.1): MaxRuns runs may be, one more may not, wherever they lie.
func TestCheckFull(t *testing.T) {
	for _, far := range []int{2, 3, 50} {
		for _, many := range []int{1, 15, 16} {
			wantCheck(t, spread(many, 0, 1, far), api.OK)
			wantSize(t, spread(many, 0, 1, far), many, api.OK)
		}
		for _, many := range []int{17, 18, 20} {
			wantWrong(t, spread(many, 0, 1, far), api.ErrFull)
		}
	}
	wantWrong(t, spread(500, 0, 1, 2), api.ErrFull)
	wantWrong(t, make([]run, 100_000), api.ErrFull)
}

// TestCheckFullFirst (9.1, P3): of too many runs ErrFull is told, also where one of them, or each, is wrong besides.
func TestCheckFullFirst(t *testing.T) {
	for _, i := range []int{0, 1, 8, 15, 16} {
		for _, no := range noRuns() {
			wantCheck(t, with(spread(17, 10, 1, 2), i, no), api.ErrFull)
		}
		wantWrong(t, with(spread(17, 10, 1, 2), i, at(-1, 1)), api.ErrFull)
		wantWrong(t, with(spread(17, 10, 1, 2), i, at(20, 3)), api.ErrFull)
	}
	wantWrong(t, slices.Repeat(set(5, 0), 17), api.ErrFull)
	wantWrong(t, slices.Repeat(set(5, 5), 17), api.ErrFull)
}

// TestCheckFrom (9.1): a run begins at a place.
func TestCheckFrom(t *testing.T) {
	for _, from := range []int{0, 1, 500, 998, 999} {
		wantCheck(t, set(from, 1), api.OK)
	}
	for _, from := range noPlaces() {
		wantWrong(t, set(from, 1), api.ErrRange)
	}
}

// TestCheckSize (9.1): a run has a place, and no more than there are from its first one on, from each place.
func TestCheckSize(t *testing.T) {
	for from := range 1_000 {
		wantCheck(t, set(from, 1), api.OK)
		wantCheck(t, set(from, 1_000-from), api.OK)
		for _, size := range []int{1_001 - from, 0, -1, math.MaxInt - from, math.MaxInt, math.MinInt} {
			wantCheck(t, set(from, size), api.ErrRange)
		}
	}
	wantCheck(t, set(998, 2), api.OK)
	wantCheck(t, set(998, 3), api.ErrRange)
	wantCheck(t, set(999, 2), api.ErrRange)
}

// TestCheckRange (9.1, P1): what is no run, alone, and as the first, a middle and the last one of others.
func TestCheckRange(t *testing.T) {
	for _, no := range noRuns() {
		wantWrong(t, []run{no}, api.ErrRange)
		for _, i := range []int{0, 1, 8, 14, 15} {
			wantCheck(t, with(spread(16, 3, 2, 5), i, no), api.ErrRange)
		}
		wantCheck(t, slices.Repeat([]run{no}, 16), api.ErrRange)
	}
}

// TestCheckShape (9.1): runs that fall, lie over each other or touch; with one place between they may be.
func TestCheckShape(t *testing.T) {
	for _, l := range [][]run{
		set(20, 3, 10, 3), set(20, 3, 16, 3), set(20, 3, 17, 3), set(20, 3, 0, 1), set(999, 1, 0, 1),
		set(20, 3, 18, 3), set(20, 3, 18, 9), set(20, 3, 20, 3), set(20, 3, 20, 1), set(20, 3, 21, 1),
		set(20, 3, 22, 1), set(20, 3, 22, 7), set(20, 3, 23, 1), set(0, 1, 1, 1), set(998, 1, 999, 1),
		set(0, 500, 500, 500), set(0, 1_000, 999, 1), set(0, 1_000, 0, 1_000),
		set(1, 1, 3, 1, 4, 1), set(1, 1, 10, 1, 5, 1), set(1, 1, 10, 5, 12, 1, 20, 1),
		slices.Repeat(set(7, 2), 16), spread(16, 0, 2, 2), spread(16, 0, 2, 1), spread(16, 900, 1, -2),
	} {
		wantWrong(t, l, api.ErrShape)
	}
	for _, l := range [][]run{
		set(20, 3, 24, 1), set(20, 3, 24, 976), set(0, 1, 2, 1), set(997, 1, 999, 1), set(0, 998, 999, 1),
		set(20, 3, 25, 1), set(20, 3, 999, 1), spread(16, 0, 1, 2), spread(16, 0, 2, 3),
	} {
		wantCheck(t, l, api.OK)
	}
}

// TestCheckShapeAnywhere (9.1): each two neighbours are held against each other.
func TestCheckShapeAnywhere(t *testing.T) {
	for i := range 15 {
		l := spread(16, 0, 4, 6)
		l[i].Size = 5
		wantCheck(t, l, api.OK)
		l[i].Size = 6
		wantWrong(t, l, api.ErrShape)
		l[i].Size = 7
		wantWrong(t, l, api.ErrShape)
	}
}

// TestCheckFirstRunAtZero (9.1): no run stands ahead of the first one, which needs no place in front of it.
func TestCheckFirstRunAtZero(t *testing.T) {
	for size := 1; size <= 1_000; size++ {
		wantCheck(t, set(0, size), api.OK)
	}
}

// TestCheckFirstFault (9.1, P3): it goes run by run; of one run that has both faults ErrRange is told.
func TestCheckFirstFault(t *testing.T) {
	for _, c := range []struct {
		l    []run
		want api.Errno
	}{
		{set(10, 2, 12, 2, -1, 1), api.ErrShape},
		{set(10, 2, 5, 2, 20, 0), api.ErrShape},
		{set(10, 2, 20, 2, 21, 2, 30, 2, 40, 961), api.ErrShape},
		{set(10, 0, 20, 2, 22, 2), api.ErrRange},
		{set(10, 2, 20, 981, 5, 2), api.ErrRange},
		{set(10, 2, -1, 1, 5, 2, 3, 1), api.ErrRange},
		{set(10, 2, 11, 0), api.ErrRange},
		{set(10, 2, -1, 1), api.ErrRange},
		{set(10, 2, 12, 989), api.ErrRange},
		{set(10, 2, 11, math.MaxInt), api.ErrRange},
		{set(10, 2, math.MinInt, 1), api.ErrRange},
		{set(999, 1, 1_000, 1), api.ErrRange},
		{set(10, 2, 12, 0, -1, 1), api.ErrRange},
	} {
		wantWrong(t, c.l, c.want)
	}
}

// TestAddByHand (9.1): a run ahead of all, between, behind, within, the same, one that touches, and one that lies over.
func TestAddByHand(t *testing.T) {
	l := set(10, 5, 20, 5, 30, 5)
	for _, c := range []struct {
		r    run
		want []run
	}{
		{at(0, 3), set(0, 3, 10, 5, 20, 5, 30, 5)},
		{at(0, 9), set(0, 9, 10, 5, 20, 5, 30, 5)},
		{at(17, 1), set(10, 5, 17, 1, 20, 5, 30, 5)},
		{at(16, 3), set(10, 5, 16, 3, 20, 5, 30, 5)},
		{at(36, 1), set(10, 5, 20, 5, 30, 5, 36, 1)},
		{at(999, 1), set(10, 5, 20, 5, 30, 5, 999, 1)},
		{at(21, 2), l}, {at(20, 1), l}, {at(24, 1), l}, {at(20, 5), l}, {at(10, 5), l}, {at(30, 5), l},
		{at(15, 2), set(10, 7, 20, 5, 30, 5)},
		{at(13, 4), set(10, 7, 20, 5, 30, 5)},
		{at(18, 2), set(10, 5, 18, 7, 30, 5)},
		{at(18, 4), set(10, 5, 18, 7, 30, 5)},
		{at(15, 5), set(10, 15, 30, 5)},
		{at(12, 10), set(10, 15, 30, 5)},
		{at(0, 10), set(0, 15, 20, 5, 30, 5)},
		{at(35, 965), set(10, 5, 20, 5, 30, 970)},
		{at(18, 9), set(10, 5, 18, 9, 30, 5)},
		{at(15, 15), set(10, 25)},
		{at(12, 20), set(10, 25)},
		{at(9, 27), set(9, 27)},
		{at(5, 21), set(5, 21, 30, 5)},
		{at(0, 1_000), set(0, 1_000)},
	} {
		wantAdd(t, l, c.r, c.want, api.OK)
	}
}

// TestAddFull (9.1): MaxRuns runs may come of it, one more may not.
func TestAddFull(t *testing.T) {
	for _, r := range set(0, 1, 0, 9, 13, 1, 12, 4, 500, 100, 999, 1) {
		l := spread(15, 10, 1, 7)
		want, _ := slowChange(l, r, true)
		if len(want) != 16 {
			t.Fatalf("%v with %v has %d runs", l, r, len(want))
		}
		wantAdd(t, l, r, want, api.OK)
		wantAdd(t, want, r, want, api.OK)
		wantAdd(t, spread(16, 10, 1, 7), r, nil, api.ErrFull)
	}
}

// TestAddToFull (9.1): what is added to MaxRuns runs may touch one, lie in one, or join some of them.
func TestAddToFull(t *testing.T) {
	l := spread(16, 10, 4, 10)
	for _, c := range []struct {
		r    run
		many int
		has  run
	}{
		{at(9, 1), 16, at(9, 5)}, {at(164, 1), 16, at(160, 5)}, {at(54, 3), 16, at(50, 7)}, {at(51, 2), 16, at(50, 4)},
		{at(54, 6), 15, at(50, 14)}, {at(52, 10), 15, at(50, 14)}, {at(47, 16), 15, at(47, 17)},
		{at(14, 146), 1, at(10, 154)}, {at(0, 1_000), 1, at(0, 1_000)}, {at(15, 144), 3, at(15, 144)},
	} {
		got, err := Add(l, c.r)
		wantError(t, fmt.Sprintf("Add(%v, %v)", l, c.r), err, api.OK)
		if len(got) != c.many || !slices.Contains(got, c.has) {
			t.Errorf("Add(%v, %v): %v, want %d runs, of which one is %v", l, c.r, got, c.many, c.has)
		}
		wantBoth(t, l, c.r)
	}
}

// TestCutByHand (9.1): no place, a whole run, its beginning, end and middle, parts of two and all between, all places.
func TestCutByHand(t *testing.T) {
	l := set(10, 5, 20, 5, 30, 5)
	for _, c := range []struct {
		r    run
		want []run
	}{
		{at(0, 3), l}, {at(0, 10), l}, {at(17, 1), l}, {at(15, 5), l}, {at(35, 965), l}, {at(999, 1), l},
		{at(10, 5), set(20, 5, 30, 5)},
		{at(20, 5), set(10, 5, 30, 5)},
		{at(30, 5), set(10, 5, 20, 5)},
		{at(15, 15), set(10, 5, 30, 5)},
		{at(20, 1), set(10, 5, 21, 4, 30, 5)},
		{at(17, 7), set(10, 5, 24, 1, 30, 5)},
		{at(24, 1), set(10, 5, 20, 4, 30, 5)},
		{at(21, 8), set(10, 5, 20, 1, 30, 5)},
		{at(22, 1), set(10, 5, 20, 2, 23, 2, 30, 5)},
		{at(21, 3), set(10, 5, 20, 1, 24, 1, 30, 5)},
		{at(13, 9), set(10, 3, 22, 3, 30, 5)},
		{at(14, 17), set(10, 4, 31, 4)},
		{at(10, 24), set(34, 1)},
		{at(11, 24), set(10, 1)},
		{at(10, 25), nil},
		{at(0, 1_000), nil},
	} {
		wantCut(t, l, c.r, c.want, api.OK)
	}
	whole := set(0, 1_000)
	wantCut(t, whole, at(0, 1), set(1, 999), api.OK)
	wantCut(t, whole, at(999, 1), set(0, 999), api.OK)
	wantCut(t, whole, at(500, 1), set(0, 500, 501, 499), api.OK)
	wantCut(t, whole, at(0, 1_000), nil, api.OK)
}

// TestCutFull (9.1): MaxRuns runs may be left, one more may not.
func TestCutFull(t *testing.T) {
	for i := range 16 {
		full := spread(16, 3, 5, 9)
		from := full[i].From
		wantCut(t, full, at(from+2, 1), nil, api.ErrFull)
		wantCut(t, full, at(from+1, 3), nil, api.ErrFull)
		wantCut(t, full, at(from, 4), with(full, i, at(from+4, 1)), api.OK)
		wantCut(t, full, at(from+1, 4), with(full, i, at(from, 1)), api.OK)
		wantCut(t, full, at(from, 5), slices.Delete(slices.Clone(full), i, i+1), api.OK)
		less := slices.Delete(slices.Clone(full), i, i+1)
		for _, one := range less {
			want, _ := slowChange(less, at(one.From+2, 1), false)
			if len(want) != 16 {
				t.Fatalf("%v without %d has %d runs", less, one.From+2, len(want))
			}
			wantCut(t, less, at(one.From+2, 1), want, api.OK)
		}
	}
}

// TestWrongRun (9.1, P1): what is no run is neither added nor cut, whatever the set has.
func TestWrongRun(t *testing.T) {
	for _, l := range someSets() {
		for _, no := range noRuns() {
			wantAdd(t, l, no, nil, api.ErrRange)
			wantCut(t, l, no, nil, api.ErrRange)
		}
	}
}

// TestWrongSetAndRun (9.1, P3): what is wrong with the set is told ahead of what is wrong with the run.
func TestWrongSetAndRun(t *testing.T) {
	for _, c := range []struct {
		l    []run
		want api.Errno
	}{
		{spread(17, 0, 1, 2), api.ErrFull},
		{set(5, 1, 6, 1), api.ErrShape},
		{set(9, 1, 6, 1), api.ErrShape},
		{set(5, 0), api.ErrRange},
	} {
		for _, no := range noRuns() {
			wantAdd(t, c.l, no, nil, c.want)
			wantCut(t, c.l, no, nil, c.want)
		}
	}
}

// TestHasEdges (9.1): the first and the last place of a run, and those beside it.
func TestHasEdges(t *testing.T) {
	l := set(0, 1, 2, 3, 100, 1, 995, 5)
	for _, p := range []int{0, 2, 3, 4, 100, 995, 997, 999} {
		wantHas(t, l, p, true, api.OK)
	}
	for _, p := range []int{1, 5, 99, 101, 500, 994} {
		wantHas(t, l, p, false, api.OK)
	}
}

// TestHasNoPlace (9.1, P1): what is no place is in no set, and that is no error.
func TestHasNoPlace(t *testing.T) {
	for _, l := range someSets() {
		for _, p := range noPlaces() {
			wantHas(t, l, p, false, api.OK)
		}
	}
}

// TestSizeByHand (9.1): no runs, one place, all places, and many runs.
func TestSizeByHand(t *testing.T) {
	for _, c := range []struct {
		l    []run
		want int
	}{
		{nil, 0}, {set(0, 1), 1}, {set(999, 1), 1}, {set(0, 1_000), 1_000}, {set(0, 499, 500, 500), 999},
		{spread(16, 0, 1, 2), 16}, {spread(16, 5, 20, 50), 320},
		{set(3, 4, 10, 1, 12, 7), 12},
	} {
		wantSize(t, c.l, c.want, api.OK)
	}
}

// spares are runs that lie in a list's memory behind its length; as runs of the list they would be wrong.
func spares() []run {
	return set(-7, -7, -8, -8, -9, -9, -10, -10)
}

// TestHandedIn (9.1, P2, P4): what is handed in, and what lies behind it in its memory, is as it was; behind its length
// nothing is read.
func TestHandedIn(t *testing.T) {
	for _, was := range append(someSets(), set(5, 5, 3, 1), set(-1, 3)) {
		memory := append(slices.Clone(was), spares()...)
		l := memory[:len(was)]
		no := slowCheck(was)
		wantCheck(t, l, no)
		for _, r := range set(0, 1, 0, 1_000, 3, 20, 41, 1, 500, 1, 990, 10, -1, 1, 5, 0) {
			wantBoth(t, l, r)
		}
		if no == api.OK {
			m := marksOf(was)
			wantPlaces(t, l, &m)
		} else {
			wantWrong(t, l, no)
		}
		if !slices.Equal(memory, append(slices.Clone(was), spares()...)) {
			t.Errorf("%v became %v", was, memory)
		}
	}
}

// TestSharesNothing (9.1, P2): writing into what came out changes neither what was handed in nor what came out before,
// and writing into what was handed in does not change what came out.
func TestSharesNothing(t *testing.T) {
	for _, change := range []func([]run, run) ([]run, error){Add, Cut} {
		for _, was := range someSets() {
			for _, r := range set(0, 1, 1, 1, 3, 4, 500, 3, 971, 1, 999, 1) {
				memory := append(slices.Clone(was), spares()...)
				l := memory[:len(was)]
				one, err := change(l, r)
				if err != nil {
					continue
				}
				two, _ := change(l, r)
				want := slices.Clone(two)
				spoil(one)
				if !slices.Equal(two, want) || !slices.Equal(memory, append(slices.Clone(was), spares()...)) {
					t.Errorf("%v, %v: what came out shares memory: %v, %v", was, r, two, memory)
				}
				spoil(l)
				if !slices.Equal(two, want) {
					t.Errorf("%v, %v: what came out became %v", was, r, two)
				}
			}
		}
	}
}

// spoil writes into all memory of a list, also behind its length.
func spoil(l []run) {
	l = l[:cap(l)]
	for i := range l {
		l[i] = at(-1, -1)
	}
}

// TestAskedAgain (9.1, P2): nothing is kept from one call to the next.
func TestAskedAgain(t *testing.T) {
	for range 3 {
		for _, l := range someSets() {
			for _, r := range set(0, 3, 400, 100, 998, 2, -1, 1) {
				wantBoth(t, l, r)
			}
		}
		wantWrong(t, set(5, 1, 6, 1), api.ErrShape)
	}
}

// TestAllSmall (9.1): all sets of a few places beside each other, at both edges and between them, with each run around.
func TestAllSmall(t *testing.T) {
	const wide = 7
	for _, low := range []int{0, 500, 1_000 - wide} {
		for code := range 1 << wide {
			var m marks
			for i := range wide {
				m[low+i] = code>>i&1 == 1
			}
			l := m.runs()
			wantPlaces(t, l, &m)
			for from := low - 2; from <= low+wide+1; from++ {
				for size := -1; size <= wide+2; size++ {
					wantBoth(t, l, at(from, size))
				}
			}
		}
	}
}

// TestAllPairs (9.1): all lists of two small runs, of which most are no sets, as far as Check tells.
func TestAllPairs(t *testing.T) {
	for _, low := range []int{0, 995} {
		for code := range 7 * 7 * 7 * 7 {
			one := at(low-1+code%7, code/7%7-1)
			two := at(low-1+code/49%7, code/343-1)
			wantCheck(t, []run{one, two}, slowCheck([]run{one, two}))
		}
	}
}

// mixer tells numbers in an order that looks mixed, and is the same each time.
type mixer uint32

// below is the next number, from 0 to top - 1.
func (m *mixer) below(top int) int {
	*m = *m*1664525 + 1013904223
	return int(*m>>16) % top
}

// run is the next run, within so many places from low on, and now and then one that may not be.
func (m *mixer) run(low, wide, most int) run {
	r := at(low+m.below(wide), 1+m.below(most))
	if m.below(20) == 0 {
		return at(m.below(1_010)-5, m.below(1_010)-5)
	}
	r.Size = min(r.Size, 1_000-r.From)
	return r
}

// play adds and cuts, and asks each time for what is told and for all places; it counts what was told.
func play(t *testing.T, mixed *mixer, steps, low, wide, most int) (told [8]int) {
	t.Helper()
	var now []run
	for range steps {
		r := mixed.run(low, wide, most)
		mark := mixed.below(3) != 0
		want, no := slowChange(now, r, mark)
		change := Cut
		if mark {
			change = Add
		}
		got, err := change(now, r)
		wantSet(t, fmt.Sprintf("%v, %v, %v", now, r, mark), got, err, want, no)
		told[no]++
		if no == api.OK {
			now = got
		}
	}
	m := marksOf(now)
	wantPlaces(t, now, &m)
	return told
}

// TestPlays (9.1, P1, P2): whole plays of Add and Cut, held against marks, in which all is told that may be.
func TestPlays(t *testing.T) {
	mixed := mixer(9)
	var told [8]int
	for _, most := range []int{1, 2, 3, 5, 8, 20, 100, 1_000} {
		for _, c := range [][2]int{{0, 40}, {0, 80}, {480, 60}, {960, 40}, {920, 80}, {0, 1_000}} {
			for no, many := range play(t, &mixed, 400, c[0], c[1], most) {
				told[no] += many
			}
		}
	}
	for _, no := range []api.Errno{api.OK, api.ErrRange, api.ErrFull} {
		if told[no] < 100 {
			t.Errorf("%v was told %d times: the plays are too poor", no, told[no])
		}
	}
}

// TestMixedLists (9.1, P3): lists of which some are sets and some are not, held against the second way.
func TestMixedLists(t *testing.T) {
	mixed := mixer(91)
	var told [8]int
	for range 20_000 {
		var l []run
		behind := 0
		for range mixed.below(19) {
			r := at(behind+mixed.below(30), 1+mixed.below(25))
			switch mixed.below(60) {
			case 0:
				r.Size = mixed.below(3) - 2
			case 1:
				r.From -= 3
			case 2:
				r.Size = 1_000 - r.From + mixed.below(2)
			}
			l = append(l, r)
			behind = r.From + r.Size + 1
		}
		no := slowCheck(l)
		told[no]++
		wantCheck(t, l, no)
		wantBoth(t, l, mixed.run(0, 1_000, 200))
		p := mixed.below(1_000)
		has, size := false, 0
		if no == api.OK {
			m := marksOf(l)
			has, size = m[p], m.size()
		}
		wantHas(t, l, p, has, no)
		wantSize(t, l, size, no)
	}
	for _, no := range []api.Errno{api.OK, api.ErrRange, api.ErrShape, api.ErrFull} {
		if told[no] < 100 {
			t.Errorf("%v was told %d times: the lists are too poor", no, told[no])
		}
	}
}
