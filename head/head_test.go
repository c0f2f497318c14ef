package head

import (
	"fmt"
	"math"
	"slices"
	"testing"

	"platterhold/api"
	"platterhold/plain"
)

// wantError asks for an error, for which nil alone stands for none.
func wantError(t *testing.T, what string, err error, want api.Errno) {
	t.Helper()
	if told := plain.Told(err); told != want {
		t.Errorf("%s: error %v, want %v", what, told, want)
	}
	if (err == nil) != (want == api.OK) {
		t.Errorf("%s: error is nil: %v, want %v", what, err == nil, want == api.OK)
	}
}

// way is one of those in which the head serves requests.
type way struct {
	name  string
	serve func(at int, reqs []int) (int, []int, error)
	slow  func(at int, reqs []int) []int // the order, in another way than the program's
}

// ways are all of them; Sweep is two.
func ways() []way {
	return []way{
		{"First", First, func(at int, reqs []int) []int { return slices.Clone(reqs) }},
		{"Near", Near, slowNear},
		{"Sweep up",
			func(at int, reqs []int) (int, []int, error) { return Sweep(at, true, reqs) },
			func(at int, reqs []int) []int { return slowSweep(at, true, reqs) }},
		{"Sweep down",
			func(at int, reqs []int) (int, []int, error) { return Sweep(at, false, reqs) },
			func(at int, reqs []int) []int { return slowSweep(at, false, reqs) }},
	}
}

// wantServed asks for what one way tells; with an error there is nothing beside it.
func wantServed(t *testing.T, w way, at int, reqs []int, far int, order []int, wantNo api.Errno) {
	t.Helper()
	what := fmt.Sprintf("%s from %d: %v", w.name, at, reqs)
	gotFar, gotOrder, err := w.serve(at, reqs)
	wantError(t, what, err, wantNo)
	if gotFar != far {
		t.Errorf("%s: goes %d, want %d", what, gotFar, far)
	}
	if !slices.Equal(gotOrder, order) {
		t.Errorf("%s: comes to %v, want %v", what, gotOrder, order)
	}
	if wantNo != api.OK && len(gotOrder) != 0 {
		t.Errorf("%s: %v beside an error", what, gotOrder)
	}
}

// wantWrong asks for one error of all calls.
func wantWrong(t *testing.T, at int, reqs []int, want api.Errno) {
	t.Helper()
	wantError(t, fmt.Sprintf("Check(%d, %v)", at, reqs), Check(at, reqs), want)
	for _, w := range ways() {
		wantServed(t, w, at, reqs, 0, nil, want)
	}
}

// wantRight asks all calls for what the slow ways tell of requests that may be.
func wantRight(t *testing.T, at int, reqs []int) {
	t.Helper()
	wantError(t, fmt.Sprintf("Check(%d, %v)", at, reqs), Check(at, reqs), api.OK)
	for _, w := range ways() {
		order := w.slow(at, reqs)
		wantServed(t, w, at, reqs, slowFar(at, order), order, api.OK)
	}
}

// slowFar counts each single step of the head.
func slowFar(at int, order []int) int {
	far := 0
	for _, track := range order {
		for at < track {
			at++
			far++
		}
		for at > track {
			at--
			far++
		}
	}
	return far
}

// countsOf tells how often each track is asked for.
func countsOf(reqs []int) [100]int {
	var counts [100]int
	for _, req := range reqs {
		counts[req]++
	}
	return counts
}

// slowNear is the order of Near by counts of tracks: the head looks around wider and wider, the lower track first.
func slowNear(at int, reqs []int) []int {
	counts := countsOf(reqs)
	var order []int
	for len(order) < len(reqs) {
		for wide := 0; ; wide++ {
			if low := at - wide; low >= 0 && counts[low] > 0 {
				at = low
				break
			}
			if high := at + wide; high < 100 && counts[high] > 0 {
				at = high
				break
			}
		}
		counts[at]--
		order = append(order, at)
	}
	return order
}

// slowSweep is the order of Sweep by counts of tracks: the head goes over each track out to the edge, and then back.
func slowSweep(at int, up bool, reqs []int) []int {
	counts := countsOf(reqs)
	var order []int
	stop := func(track int) {
		for range counts[track] {
			order = append(order, track)
		}
		counts[track] = 0
	}
	if up {
		for track := at; track < 100; track++ {
			stop(track)
		}
		for track := 99; track >= 0; track-- {
			stop(track)
		}
		return order
	}
	for track := at; track >= 0; track-- {
		stop(track)
	}
	for track := range 100 {
		stop(track)
	}
	return order
}

const kinds = 10

// reqsOf makes so many requests, others for each kind; those of kind 0 are all 0, of kind 1 all MaxTrack, and of some
// kinds there are few tracks, so that they stand more than once.
func reqsOf(many, kind int) []int {
	reqs := make([]int, many)
	for i := range reqs {
		mixed := kind*397 + i*i*131 + i*kind*59 + i/3
		switch kind {
		case 0:
			reqs[i] = 0
		case 1:
			reqs[i] = 99
		case 2:
			reqs[i] = 5 * i % 100
		case 3:
			reqs[i] = 99 - 5*i%100
		case 4:
			reqs[i] = 48 + mixed%5
		case 5:
			reqs[i] = mixed % 7 * 16
		default:
			reqs[i] = mixed % 100
		}
	}
	return reqs
}

// noTracks are numbers just outside of what a track may be, and far from it, also such as end in fit bits.
func noTracks() []int {
	return []int{
		-1, 100, -2, 101, -99, -100, 1_000, 1<<32 + 5, -1 << 32,
		math.MinInt32, math.MaxInt32, math.MinInt, math.MinInt + 1, math.MaxInt,
	}
}

// TestNumbers (7.1, P3): the numbers that bound things, which the tests here write out.
func TestNumbers(t *testing.T) {
	if api.MaxReqs != 20 || api.MaxTrack != 99 {
		t.Fatalf("MaxReqs %d, MaxTrack %d", api.MaxReqs, api.MaxTrack)
	}
}

// TestByHand (7.1): what can be followed on paper.
func TestByHand(t *testing.T) {
	reqs := []int{98, 83, 37, 22, 14, 24, 65, 67}
	for i, c := range []struct {
		far   int
		order []int
	}{
		// 45 + 15 + 46 + 15 + 8 + 10 + 41 + 2
		{182, []int{98, 83, 37, 22, 14, 24, 65, 67}},
		// 12 + 2 + 16 + 15 to the top, and 61 + 13 + 2 + 8 down
		{129, []int{65, 67, 83, 98, 37, 24, 22, 14}},
		// 45 up, 84 down
		{129, []int{65, 67, 83, 98, 37, 24, 22, 14}},
		// 39 down, 84 up
		{123, []int{37, 24, 22, 14, 65, 67, 83, 98}},
	} {
		wantServed(t, ways()[i], 53, reqs, c.far, c.order, api.OK)
	}
}

// TestNoRequest (7.1, P4): with no request, or nil, the head stays; where it is has to be a track all the same.
func TestNoRequest(t *testing.T) {
	for _, reqs := range [][]int{nil, {}} {
		for _, at := range []int{0, 1, 50, 98, 99} {
			wantError(t, "Check", Check(at, reqs), api.OK)
			for _, w := range ways() {
				wantServed(t, w, at, reqs, 0, nil, api.OK)
			}
		}
		for _, no := range noTracks() {
			wantWrong(t, no, reqs, api.ErrRange)
		}
	}
}

// TestOneRequest (7.1): each track from each track, also from itself.
func TestOneRequest(t *testing.T) {
	for at := range 100 {
		for req := range 100 {
			for _, w := range ways() {
				wantServed(t, w, at, []int{req}, max(at-req, req-at), []int{req}, api.OK)
			}
		}
	}
}

// TestFull (7.1): MaxReqs requests may be, one more may not, whatever stands in them.
func TestFull(t *testing.T) {
	for kind := range kinds {
		for _, at := range []int{0, 50, 99} {
			wantRight(t, at, reqsOf(19, kind))
			wantRight(t, at, reqsOf(20, kind))
			for _, many := range []int{21, 22, 40, 1_000} {
				wantWrong(t, at, reqsOf(many, kind), api.ErrFull)
			}
		}
	}
}

// TestRangeAt (7.1, P1): where the head is may be from 0 to MaxTrack.
func TestRangeAt(t *testing.T) {
	for many := range 21 {
		reqs := reqsOf(many, 6)
		wantRight(t, 0, reqs)
		wantRight(t, 99, reqs)
		for _, no := range noTracks() {
			wantWrong(t, no, reqs, api.ErrRange)
		}
	}
}

// TestRangeOfRequest (7.1, P1): what is no track, at the first place, in the middle and at the last one; the edges are.
func TestRangeOfRequest(t *testing.T) {
	for _, many := range []int{1, 2, 3, 10, 19, 20} {
		for _, place := range []int{0, many / 2, many - 1} {
			for _, edge := range []int{0, 99} {
				reqs := reqsOf(many, 7)
				reqs[place] = edge
				wantRight(t, 50, reqs)
			}
			for _, no := range noTracks() {
				reqs := reqsOf(many, 7)
				reqs[place] = no
				wantWrong(t, 50, reqs, api.ErrRange)
				wantWrong(t, no, reqs, api.ErrRange)
			}
		}
	}
	for _, no := range noTracks() {
		wantWrong(t, 50, slices.Repeat([]int{no}, 20), api.ErrRange)
	}
}

// TestFullAheadOfRange (7.1, P3): of too many requests ErrFull is told, also where at or a request is no track.
func TestFullAheadOfRange(t *testing.T) {
	for _, no := range noTracks() {
		wantWrong(t, no, reqsOf(21, 6), api.ErrFull)
		for _, place := range []int{0, 10, 19, 20} {
			reqs := reqsOf(21, 6)
			reqs[place] = no
			wantWrong(t, 50, reqs, api.ErrFull)
			wantWrong(t, no, reqs, api.ErrFull)
		}
		wantWrong(t, no, slices.Repeat([]int{no}, 21), api.ErrFull)
	}
}

// TestMany (7.1): each count of requests, of each kind, from many tracks, by other ways.
func TestMany(t *testing.T) {
	for many := range 21 {
		for kind := range kinds {
			for at := 0; at < 100; at += 9 {
				wantRight(t, at, reqsOf(many, kind))
			}
		}
	}
}

// TestFew (7.1): all short rows of requests that lie close to the head, at both edges and between them.
func TestFew(t *testing.T) {
	for _, low := range []int{0, 47, 94} {
		for code := range 6 * 6 * 6 * 6 {
			reqs := make([]int, 4)
			for place := range reqs {
				reqs[place], code = low+code%6, code/6
			}
			for at := low; at < low+6; at++ {
				wantRight(t, at, reqs)
			}
		}
	}
}

// TestAtTheHead (7.1): requests where the head is cost nothing, and both sweeps come to them before all others; First
// leaves them where they are.
func TestAtTheHead(t *testing.T) {
	reqs := []int{51, 50, 49, 50}
	wantServed(t, ways()[0], 50, reqs, 4, reqs, api.OK)
	wantServed(t, ways()[1], 50, reqs, 3, []int{50, 50, 49, 51}, api.OK)
	wantServed(t, ways()[2], 50, reqs, 3, []int{50, 50, 51, 49}, api.OK)
	wantServed(t, ways()[3], 50, reqs, 3, []int{50, 50, 49, 51}, api.OK)
	for at := range 100 {
		for _, w := range ways() {
			same := slices.Repeat([]int{at}, 20)
			wantServed(t, w, at, same, 0, same, api.OK)
		}
	}
}

// TestOneSide (7.1): requests above the head alone, and below it alone; a sweep the other way turns at once.
func TestOneSide(t *testing.T) {
	above, below := []int{60, 52, 70, 52}, []int{40, 48, 30, 48}
	rising, falling := []int{52, 52, 60, 70}, []int{48, 48, 40, 30}
	for _, w := range ways()[1:] {
		wantServed(t, w, 50, above, 20, rising, api.OK)
		wantServed(t, w, 50, below, 20, falling, api.OK)
	}
	wantServed(t, ways()[0], 50, above, 10+8+18+18, above, api.OK)
	wantServed(t, ways()[0], 50, below, 10+8+18+18, below, api.OK)
}

// TestMoreThanOnce (7.1): requests that stand more than once, on the way out and on the way back.
func TestMoreThanOnce(t *testing.T) {
	reqs := []int{60, 40, 60, 30, 40, 50, 60, 70, 50, 30}
	wantServed(t, ways()[0], 50, reqs, 10+20+20+30+10+10+10+10+20+20, reqs, api.OK)
	wantServed(t, ways()[1], 50, reqs, 20+40, []int{50, 50, 40, 40, 30, 30, 60, 60, 60, 70}, api.OK)
	wantServed(t, ways()[2], 50, reqs, 20+40, []int{50, 50, 60, 60, 60, 70, 40, 40, 30, 30}, api.OK)
	wantServed(t, ways()[3], 50, reqs, 20+40, []int{50, 50, 40, 40, 30, 30, 60, 60, 60, 70}, api.OK)
}

// TestNearAsNear (7.1): of two that are as near Near takes the lower one, whichever was asked for earlier, at the first
// step and at a later one.
func TestNearAsNear(t *testing.T) {
	near := ways()[1]
	for wide := 1; wide <= 49; wide++ {
		low, high := 50-wide, 50+wide
		wantServed(t, near, 50, []int{low, high}, 3*wide, []int{low, high}, api.OK)
		wantServed(t, near, 50, []int{high, low}, 3*wide, []int{low, high}, api.OK)
	}
	// First the head goes to 20, from which 17 and 23 are as near.
	wantServed(t, near, 19, []int{23, 20, 17}, 1+3+6, []int{20, 17, 23}, api.OK)
	wantServed(t, near, 19, []int{17, 20, 23}, 1+3+6, []int{20, 17, 23}, api.OK)
}

// TestNearAnew (7.1): what is nearest is asked anew from where the head is then; from 50 alone 47 would be second.
func TestNearAnew(t *testing.T) {
	near := ways()[1]
	wantServed(t, near, 50, []int{47, 52, 54, 56}, 6+9, []int{52, 54, 56, 47}, api.OK)
	wantServed(t, near, 50, []int{53, 48, 46, 44}, 6+9, []int{48, 46, 44, 53}, api.OK)
	// It goes back and forth, wider and wider.
	wantServed(t, near, 50, []int{62, 45, 52, 49}, 1+3+7+17, []int{49, 52, 45, 62}, api.OK)
}

// TestEachOnce (7.1): each request is come to once, and none besides.
func TestEachOnce(t *testing.T) {
	for kind := range kinds {
		for at := range 100 {
			reqs := reqsOf(20, kind)
			for _, w := range ways() {
				_, order, err := w.serve(at, reqs)
				wantError(t, w.name, err, api.OK)
				if countsOf(order) != countsOf(reqs) {
					t.Errorf("%s from %d: %v, want all of %v", w.name, at, order, reqs)
				}
			}
		}
	}
}

// TestSweepTurnsOnce (7.1): a sweep goes out as far as it must, and then back as far as it must.
func TestSweepTurnsOnce(t *testing.T) {
	for kind := range kinds {
		for many := 1; many <= 20; many++ {
			for at := range 100 {
				reqs := reqsOf(many, kind)
				top, bottom := max(at, slices.Max(reqs)), min(at, slices.Min(reqs))
				up, down := top-at, at-bottom
				far, _, err := Sweep(at, true, reqs)
				wantError(t, "Sweep up", err, api.OK)
				if want := up + (up+down)*sign(down); far != want {
					t.Errorf("Sweep up from %d: %v goes %d, want %d", at, reqs, far, want)
				}
				far, _, err = Sweep(at, false, reqs)
				wantError(t, "Sweep down", err, api.OK)
				if want := down + (up+down)*sign(up); far != want {
					t.Errorf("Sweep down from %d: %v goes %d, want %d", at, reqs, far, want)
				}
			}
		}
	}
}

// sign is 0 of 0, and 1 of what is above it.
func sign(n int) int {
	return min(n, 1)
}

// TestListsLeft (7.1, P2, P4): a list that is handed in stays as it was, and so does the memory behind it.
func TestListsLeft(t *testing.T) {
	for _, many := range []int{0, 1, 5, 20, 21} {
		for kind := range kinds {
			memory := append(reqsOf(many, kind), 7, -7, 1_000)
			was := slices.Clone(memory)
			for _, w := range ways() {
				_, _, _ = w.serve(50, memory[:many])
				_, _, _ = w.serve(-1, memory[:many])
			}
			_ = Check(50, memory[:many])
			if !slices.Equal(memory, was) {
				t.Errorf("%v became %v", was, memory)
			}
		}
	}
}

// TestBehindTheList (7.1, P4): what lies behind the list's length makes no difference.
func TestBehindTheList(t *testing.T) {
	for many := range 21 {
		memory := append(reqsOf(many, 6), -1, 100, 50)
		wantRight(t, 50, memory[:many])
	}
}

// TestFresh (7.1, P2): what is told shares no memory with what was handed in, nor with what is told again.
func TestFresh(t *testing.T) {
	for _, w := range ways() {
		for kind := range kinds {
			reqs := reqsOf(20, kind)
			was := slices.Clone(reqs)
			_, one, _ := w.serve(50, reqs)
			_, two, _ := w.serve(50, reqs)
			want := slices.Clone(one)
			for i := range two {
				two[i] = -1
			}
			_ = append(two, -1)
			if !slices.Equal(reqs, was) || !slices.Equal(one, want) {
				t.Errorf("%s: writing into an answer changed %v or %v", w.name, reqs, one)
			}
			for i := range reqs {
				reqs[i] = -1
			}
			if !slices.Equal(one, want) {
				t.Errorf("%s: writing into the requests changed the answer: %v", w.name, one)
			}
		}
	}
}

// TestSameAgain (7.1, P2): what is told hangs on the arguments alone, also behind a call that was wrong.
func TestSameAgain(t *testing.T) {
	for _, w := range ways() {
		reqs := reqsOf(20, 8)
		far, order, _ := w.serve(30, reqs)
		_, _, _ = w.serve(-1, reqs)
		_, _, _ = w.serve(80, reqsOf(20, 5))
		wantServed(t, w, 30, reqs, far, order, api.OK)
	}
}
