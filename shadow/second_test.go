package shadow

import (
	"fmt"
	"slices"
	"strings"
	"testing"

	"platterhold/api"
)

// held is a slot: what is in it, and which page is in it by the new table, and by the old one.
type held struct {
	value    int
	now, old int // 0: none; else the page, and one more
}

// slots is a disk in another way than the program's: it has no tables, but knows of each slot whose it is. Slots that are
// nobody's are empty.
type slots [16]held

// by is the slot in which a page is by the new table, and by the old one; -1: none.
func (s *slots) by(page int) (now, old int) {
	now = slices.IndexFunc(s[:], func(h held) bool { return h.now == page+1 })
	old = slices.IndexFunc(s[:], func(h held) bool { return h.old == page+1 })
	return now, old
}

// write is Write.
func (s *slots) write(page, value int) (int, api.Errno) {
	if page < 0 || page > 7 || value < 0 || value > 1000 {
		return 0, api.ErrRange
	}
	now, old := s.by(page)
	if now == old {
		if now != -1 {
			s[now].now = 0
		}
		now = slices.Index(s[:], held{})
	}
	s[now].value, s[now].now = value, page+1
	return now, api.OK
}

// turn lets each slot be whose one of the tables says that it is; it tells of how many pages this is another one.
func (s *slots) turn(whose func(held) int) int {
	others := 0
	for i, h := range s {
		page := whose(h)
		s[i] = held{}
		if page != 0 {
			s[i] = held{h.value, page, page}
		}
		if page != 0 && h.now != h.old {
			others++
		}
	}
	return others
}

// do does a step.
func (s *slots) do(one step) (int, api.Errno) {
	switch one.call {
	case "Write":
		return s.write(one.page, one.value)
	case "End":
		return s.turn(func(h held) int { return h.now }), api.OK
	}
	s.turn(func(h held) int { return h.old })
	return 0, api.OK
}

// worth is what is in a slot, or in none.
func (s *slots) worth(slot int) int {
	if slot == -1 {
		return 0
	}
	return s[slot].value
}

// String is the state, as stateOf tells it.
func (s *slots) String() string {
	var texts []string
	for page := range 8 {
		now, old := s.by(page)
		if now == -1 {
			continue
		}
		text := fmt.Sprintf("%d@%d=%d", page, now, s.worth(now))
		if s.worth(now) != s.worth(old) {
			text += fmt.Sprintf("/%d", s.worth(old))
		}
		texts = append(texts, text)
	}
	return strings.Join(texts, " ")
}

// wantSameStep does a step on both, and asks for the same answer, and for the same state behind it; the answer is told.
func wantSameStep(t *testing.T, d *Disk, s *slots, one step) string {
	t.Helper()
	want, no := s.do(one)
	got, err := one.on(d)
	wantError(t, one, err, no)
	if got != want {
		t.Errorf("%v: got %d, want %d", one, got, want)
	}
	wantState(t, one, d, s.String())
	return fmt.Sprint(one.call, " ", want, " ", no)
}

// replayed are both behind steps.
func replayed(steps []step) (*Disk, *slots) {
	d, s := New(), &slots{}
	for _, one := range steps {
		one.on(d)
		s.do(one)
	}
	return d, s
}

// fewSteps are all steps with some pages and values, and such as can't be.
func fewSteps(pages, values []int) []step {
	steps := []step{
		{call: "End"}, {call: "Crash"}, write(-1, 1), write(8, 1), write(pages[0], -1), write(pages[0], 1001), write(8, -1),
	}
	for _, page := range pages {
		for _, value := range values {
			steps = append(steps, write(page, value))
		}
	}
	return steps
}

// wantAllSmall does each of a few steps on each disk to which these lead (on the nearest 5000, if there are more), and asks
// how many disks that are.
func wantAllSmall(t *testing.T, steps []step, want int) {
	t.Helper()
	ways := [][]step{nil}
	seen := map[slots]bool{{}: true}
	for at := 0; at < len(ways); at++ {
		for _, one := range steps {
			d, s := replayed(ways[at])
			wantSameStep(t, d, s, one)
			if !seen[*s] && len(ways) < 5000 {
				seen[*s] = true
				ways = append(ways, append(slices.Clone(ways[at]), one))
			}
		}
		if t.Failed() {
			t.Fatalf("behind %v", ways[at])
		}
	}
	if len(ways) != want {
		t.Errorf("%d disks, want %d", len(ways), want)
	}
}

// TestAllSmall (19.1): all disks that there are with one page and three values, with two pages and two values, and with three
// pages and one value; and the nearest ones with all pages.
func TestAllSmall(t *testing.T) {
	wantAllSmall(t, fewSteps([]int{3}, []int{0, 1, 1000}), 28)
	wantAllSmall(t, fewSteps([]int{0, 1}, []int{0, 1}), 741)
	wantAllSmall(t, fewSteps([]int{7, 0}, []int{2, 1000}), 741)
	wantAllSmall(t, fewSteps([]int{2, 5, 4}, []int{1}), 2608)
	wantAllSmall(t, fewSteps([]int{0, 1, 2, 3, 4, 5, 6, 7}, []int{1}), 5000)
}

// mixer tells numbers in an order that looks mixed, and is the same each time.
type mixer uint32

// below is the next number, from 0 to top - 1.
func (m *mixer) below(top int) int {
	*m = *m*1664525 + 1013904223
	return int(*m>>16) % top
}

// of is the next one of some numbers.
func (m *mixer) of(some []int) int { return some[m.below(len(some))] }

// write is the next Write, of one of so many pages; now and then it is none.
func (m *mixer) write(pages int) step {
	s := write(m.below(pages), m.of([]int{0, 1, 1000, m.below(1001), m.below(1001)}))
	if m.below(16) == 0 {
		s.page = m.of(noPages())
	}
	if m.below(16) == 0 {
		s.value = m.of(noValues())
	}
	return s
}

// step is the next step, with one of so many pages; one time of so many it is none that writes.
func (m *mixer) step(pages, seldom int) step {
	if m.below(seldom) > 0 {
		return m.write(pages)
	}
	if m.below(3) == 0 {
		return step{call: "Crash"}
	}
	return step{call: "End"}
}

// answers are all that the calls can tell.
func answers() []string {
	all := []string{"Crash 0 OK", "Write 0 ErrRange"}
	for slot := range 16 {
		all = append(all, fmt.Sprintf("Write %d OK", slot))
	}
	for pages := range 9 {
		all = append(all, fmt.Sprintf("End %d OK", pages))
	}
	return all
}

// TestPlays (19.1, P1): whole plays, held against the second way, in which each call tells all that it may.
func TestPlays(t *testing.T) {
	mixed := mixer(19)
	told := map[string]int{}
	for play := range 200 {
		d, s := New(), &slots{}
		pages, seldom := min(1+play/4%14, 8), []int{2, 5, 12, 40}[play%4]
		for range 400 {
			told[wantSameStep(t, d, s, mixed.step(pages, seldom))]++
			if t.Failed() {
				t.FailNow()
			}
		}
	}
	for _, what := range answers() {
		if told[what] < 100 {
			t.Errorf("%s was told %d times: the plays are too poor", what, told[what])
		}
	}
	if len(told) != len(answers()) {
		t.Errorf("the plays told %v, want %v alone", told, answers())
	}
}

// TestPlaysBesideEachOther (19.1, P2): two disks are played in turns, each as if it were alone.
func TestPlaysBesideEachOther(t *testing.T) {
	mixed := mixer(191)
	disks := [2]*Disk{New(), New()}
	now := [2]*slots{{}, {}}
	for range 10_000 {
		who := mixed.below(2)
		wantSameStep(t, disks[who], now[who], mixed.step(8, 8))
		wantState(t, "the other one", disks[1-who], now[1-who].String())
		if t.Failed() {
			t.FailNow()
		}
	}
}
