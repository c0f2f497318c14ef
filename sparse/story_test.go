package sparse

import (
	"fmt"
	"math"
	"slices"
	"testing"

	"platterhold/api"
)

// story is a file in another way than the program's: neither bytes nor blocks are kept, but all steps that came off. What
// is asked is looked for from the last step back.
type story []step

// covers tells whether a step wrote the byte at a place.
func (s step) covers(place int) bool {
	return s.call == "Write" && s.at <= place && place < s.at+len(s.l)
}

// cuts tells whether a place was behind a step's cut.
func (s step) cuts(place int) bool {
	return s.call == "Cut" && place >= s.at
}

// size is Size: as far as was written since the last Cut, or where that one was.
func (m story) size() int {
	far := 0
	for _, s := range slices.Backward(m) {
		if s.call == "Cut" {
			return max(far, s.at)
		}
		if len(s.l) > 0 {
			far = max(far, s.at+len(s.l))
		}
	}
	return far
}

// byteAt is the byte at a place.
func (m story) byteAt(place int) int {
	for _, s := range slices.Backward(m) {
		if s.covers(place) {
			return s.l[place-s.at]
		}
		if s.cuts(place) {
			return 0
		}
	}
	return 0
}

// has tells whether a block is there.
func (m story) has(i int) bool {
	for _, s := range slices.Backward(m) {
		if s.covers(4*i) || s.covers(4*i+1) || s.covers(4*i+2) || s.covers(4*i+3) {
			return true
		}
		if s.cuts(4*i) && s.cuts(4*i+1) && s.cuts(4*i+2) && s.cuts(4*i+3) {
			return false
		}
	}
	return false
}

// blocks is Blocks.
func (m story) blocks() []int {
	var all []int
	for i := range 16 {
		if m.has(i) {
			all = append(all, i)
		}
	}
	return all
}

// read is Read, of a place and a number that may be.
func (m story) read(at, n int) []int {
	var l []int
	for place := range m.size() {
		if place >= at && n > 0 {
			l = append(l, m.byteAt(place))
			n--
		}
	}
	return l
}

// String is the text that shown tells of a file.
func (m story) String() string { return text(m.size(), m.read(0, 64), m.blocks()) }

// wrong is the error that a step has to tell of any file.
func (s step) wrong() api.Errno {
	noByte := func(b int) bool { return b < 0 || 255 < b }
	switch {
	case len(s.l) > 64:
		return api.ErrFull
	case s.at < 0 || 64 < s.at || slices.ContainsFunc(s.l, noByte):
		return api.ErrRange
	case len(s.l) > 64-s.at:
		return api.ErrFull
	}
	return api.OK
}

// then is the story with one more step, if it comes off.
func (m story) then(s step) story {
	if s.wrong() != api.OK {
		return m
	}
	return append(slices.Clone(m), s)
}

// wantSameStep does a step on a file, and asks for what the story has behind it.
func wantSameStep(t *testing.T, f *File, m *story, s step) api.Errno {
	t.Helper()
	no := s.wrong()
	*m = m.then(s)
	wantStep(t, f, s, no)
	wantFile(t, s, f, m.String())
	return no
}

// fewSteps are some of each kind, close to a file's beginning.
func fewSteps() []step {
	var all []step
	for _, size := range []int{-1, 0, 1, 2, 3, 4, 5, 6, 8, 9, 64, 65} {
		all = append(all, cut(size))
	}
	for _, at := range []int{-1, 0, 1, 2, 3, 4, 7, 8, 63, 64, 65, math.MinInt, math.MaxInt} {
		all = append(all, write(at), write(at, 1), write(at, 0), write(at, 2, 3), write(at, 4, 256))
	}
	return append(all, write(0, 1, 2, 3, 4, 5, 6), write(2, 7, 8, 9, 1, 2, 3, 4), write(0, rising(64)...), write(0, rising(65)...))
}

// wantAllSmall does each of a few steps on each file to which a few of them lead from a start on; behind each one the
// file is made longer, to see what is behind its end.
func wantAllSmall(t *testing.T, start ...step) {
	t.Helper()
	const most = 300
	ways := []story{start}
	seen := map[string]bool{ways[0].String(): true}
	for at := 0; at < len(ways); at++ {
		for _, s := range fewSteps() {
			f, m := fileOf(t, ways[at]...), ways[at]
			wantSameStep(t, f, &m, s)
			if shown := m.String(); !seen[shown] && len(ways) < most {
				seen[shown] = true
				ways = append(ways, m)
			}
			wantSameStep(t, f, &m, cut(64))
		}
		if t.Failed() {
			t.Fatalf("behind %v", ways[at])
		}
	}
	if len(ways) < most {
		t.Errorf("%d files only", len(ways))
	}
}

// TestAllSmall (15.1): from a new file on, from one with a hole, and from one without one.
func TestAllSmall(t *testing.T) {
	wantAllSmall(t)
	wantAllSmall(t, write(5, 1, 2, 3), write(60, 4, 5, 6))
	wantAllSmall(t, write(0, rising(64)...))
}

// mixer tells numbers in an order that looks mixed, and is the same each time.
type mixer uint32

// below is the next number, from 0 to top - 1.
func (m *mixer) below(top int) int {
	*m = *m*1664525 + 1013904223
	return int(*m>>16) % top
}

// of is the next one of some numbers.
func (m *mixer) of(some []int) int { return some[m.below(len(some))] }

// size is the next size, or place; now and then it is none.
func (m *mixer) size() int {
	if m.below(10) == 0 {
		return m.of(noSizes())
	}
	return m.of([]int{0, 1, 63, 64, 4 * m.below(17), m.below(65), m.below(65), m.below(65)})
}

// list are the next bytes that are to be written at a place, which now and then end far behind, or are none.
func (m *mixer) list(at int) []int {
	room := min(max(64-at, 0), 64)
	many := m.of([]int{0, 1, 1 + m.below(5), 1 + m.below(5), m.below(room + 1), m.below(room + 1), room, room + 1, m.below(70)})
	l := make([]int, many)
	for i := range l {
		l[i] = m.of([]int{0, 255, m.below(256), m.below(256)})
	}
	if many > 0 && m.below(10) == 0 {
		l[m.below(many)] = m.of(noBytes())
	}
	return l
}

// step is the next step.
func (m *mixer) step() step {
	at := m.size()
	if m.below(3) == 0 {
		return cut(at)
	}
	return write(at, m.list(at)...)
}

// TestPlays (15.1, P1, P3): whole plays, held against the story, in which each call tells all that it may.
func TestPlays(t *testing.T) {
	mixed := mixer(15)
	told := map[string]int{}
	for range 60 {
		f, m := New(), story{}
		for range 100 {
			s := mixed.step()
			told[fmt.Sprint(s.call, " ", wantSameStep(t, f, &m, s))]++
			at, n := mixed.below(65), mixed.below(65)
			wantRead(t, f, at, n, m.read(at, n), api.OK)
			if t.Failed() {
				t.Fatalf("behind %v", m)
			}
		}
	}
	all := []string{"Write OK", "Write ErrRange", "Write ErrFull", "Cut OK", "Cut ErrRange"}
	for _, what := range all {
		if told[what] < 100 {
			t.Errorf("%s was told %d times: the plays are too poor", what, told[what])
		}
	}
	if len(told) != len(all) {
		t.Errorf("the plays told %v, want %v alone", told, all)
	}
}

// TestPlaysBesideEachOther (15.1, P2): two files are played in turns, each as if it were alone.
func TestPlaysBesideEachOther(t *testing.T) {
	mixed := mixer(151)
	files := [2]*File{New(), New()}
	now := [2]story{}
	for range 1_000 {
		who := mixed.below(2)
		wantSameStep(t, files[who], &now[who], mixed.step())
		wantFile(t, "the other one", files[1-who], now[1-who].String())
		if t.Failed() {
			t.Fatalf("behind %v and %v", now[0], now[1])
		}
	}
}
