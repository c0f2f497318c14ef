package wal

import (
	"fmt"
	"slices"
	"testing"

	"platterhold/api"
)

// moment is what there was when the log had just so many records.
type moment struct {
	values [8]int        // by all turns that had ended
	open   [20][]api.Put // what each turn had written that had not ended
	ended  [20]bool
	kept   int // how many records were of turns that had ended
}

// moments is a disk in another way than the program's: it knows no records. A crash leaves what there was at one moment,
// and so it keeps all moments to which one can lead. At the first one all records last that do.
type moments struct {
	all    []moment
	synced int
}

// newMoments is a disk of noughts.
func newMoments() *moments { return &moments{all: make([]moment, 1)} }

// now is the last moment.
func (m *moments) now() moment { return m.all[len(m.all)-1] }

// records are how many there are.
func (m *moments) records() int { return m.synced + len(m.all) - 1 }

// only makes a moment the only one.
func (m *moments) only(one moment, synced int) { m.all, m.synced = []moment{one}, synced }

// fault tells what is wrong with a turn that is to go on, by a block and a value, or to end.
func (m *moments) fault(p api.Put) api.Errno {
	switch {
	case p.Turn < 0 || p.Turn > 19:
		return api.ErrRange
	case m.now().ended[p.Turn]:
		return api.ErrState
	case p.Block < 0 || p.Block > 7 || p.Value < 0 || p.Value > 1000:
		return api.ErrRange
	case m.records() >= 60:
		return api.ErrFull
	}
	return api.OK
}

// write is Write.
func (m *moments) write(p api.Put) api.Errno {
	if no := m.fault(p); no != api.OK {
		return no
	}
	next := m.now()
	next.open[p.Turn] = append(slices.Clone(next.open[p.Turn]), p)
	m.all = append(m.all, next)
	return api.OK
}

// end is End.
func (m *moments) end(turn int) api.Errno {
	if no := m.fault(api.Put{Turn: turn}); no != api.OK {
		return no
	}
	next := m.now()
	for _, p := range next.open[turn] {
		next.values[p.Block] = p.Value
	}
	next.kept += len(next.open[turn]) + 1
	next.open[turn], next.ended[turn] = nil, true
	m.all = append(m.all, next)
	return api.OK
}

// crash is Crash.
func (m *moments) crash(n int) api.Errno {
	if n < m.synced || n > m.records() {
		return api.ErrRange
	}
	left := m.all[n-m.synced]
	left.open = [20][]api.Put{}
	m.only(left, left.kept)
	return api.OK
}

// home is Home.
func (m *moments) home() api.Errno {
	for _, puts := range m.now().open {
		if len(puts) > 0 {
			return api.ErrState
		}
	}
	m.only(moment{values: m.now().values}, 0)
	return api.OK
}

// do does a step.
func (m *moments) do(s step) api.Errno {
	switch s.call {
	case "Write":
		return m.write(s.put)
	case "End":
		return m.end(s.n)
	case "Crash":
		return m.crash(s.n)
	case "Home":
		return m.home()
	}
	m.only(m.now(), m.records())
	return api.OK
}

// String is the state, as stateOf tells it.
func (m *moments) String() string {
	text := ""
	for block, value := range m.now().values {
		if value != 0 {
			text += fmt.Sprintf("%d=%d ", block, value)
		}
	}
	for turn, ended := range m.now().ended {
		if ended {
			text += fmt.Sprintf("%d. ", turn)
		}
	}
	return text + fmt.Sprintf("%d/%d", m.records(), m.synced)
}

// wantSameStep does a step on both, and asks for the same error, and for the same state behind it.
func wantSameStep(t *testing.T, d *Disk, m *moments, s step) api.Errno {
	t.Helper()
	no := m.do(s)
	wantStep(t, d, s, no)
	wantState(t, s, d, m.String())
	return no
}

// replayed are both behind steps.
func replayed(steps []step) (*Disk, *moments) {
	d, m := New(), newMoments()
	for _, s := range steps {
		s.on(d)
		m.do(s)
	}
	return d, m
}

// fewSteps are all steps of two turns with two blocks, and such as can't be; each turn writes values of its own.
func fewSteps(one, other, block, next int) []step {
	all := []step{
		write(one, block, 1), write(one, next, 2), write(one, block, 3), write(other, block, 4), write(other, next, 1000),
		write(other, block, 0), end(one), end(other), {call: "Sync"}, {call: "Home"},
		write(-1, block, 1), write(20, block, 1), write(one, -1, 1), write(other, 8, 1), write(one, block, -1),
		write(other, next, 1001), end(-1), end(20),
	}
	for n := -1; n <= 8; n++ {
		all = append(all, crash(n))
	}
	return all
}

// wantAllSmall does each of a few steps on each disk to which a few of them lead, the nearest first.
func wantAllSmall(t *testing.T, steps []step, most int) {
	t.Helper()
	ways := [][]step{nil}
	seen := map[string]bool{fmt.Sprint(*newMoments()): true}
	for at := 0; at < len(ways); at++ {
		for _, s := range steps {
			d, m := replayed(ways[at])
			wantSameStep(t, d, m, s)
			if shown := fmt.Sprint(*m); !seen[shown] && len(ways) < most {
				seen[shown] = true
				ways = append(ways, append(slices.Clone(ways[at]), s))
			}
		}
		if t.Failed() {
			t.Fatalf("behind %v", ways[at])
		}
	}
	if len(ways) < most {
		t.Errorf("%d disks only", len(ways))
	}
}

// TestAllSmall (17.1, 17.2): with the first two turns and blocks, and with the first and the last one.
func TestAllSmall(t *testing.T) {
	wantAllSmall(t, fewSteps(0, 1, 0, 1), 1500)
	wantAllSmall(t, fewSteps(19, 0, 7, 0), 1500)
}

// mixer tells numbers in an order that looks mixed, and is the same each time.
type mixer uint32

// below is the next number, from 0 to top - 1.
func (m *mixer) below(top int) int {
	*m = *m*1664525 + 1013904223
	return int(*m>>16) % top
}

// of is the next one of some numbers.
func (m *mixer) of(some []int) int { return some[m.below(len(some))] }

// write is the next Write, of one of so many turns; now and then it is none.
func (m *mixer) write(turns int) step {
	s := write(m.below(turns), m.below(8), m.of([]int{0, 1, 1000, m.below(1001), m.below(1001)}))
	switch m.below(30) {
	case 0:
		s.put.Turn = m.of(noTurns())
	case 1:
		s.put.Block = m.of(noBlocks())
	case 2:
		s.put.Value = m.of(noValues())
	}
	return s
}

// end is the next End, of one of so many turns; now and then of none.
func (m *mixer) end(turns int) step {
	if m.below(15) == 0 {
		return end(m.of(noTurns()))
	}
	return end(m.below(turns))
}

// crash is the next Crash; now and then it is none.
func (m *mixer) crash(now *moments) step {
	if m.below(3) == 0 {
		return crash(m.of(noCrashes(now.records(), now.synced)))
	}
	return crash(now.synced + m.below(len(now.all)))
}

// step is the next step, of one of so many turns; one time of so many it is none that writes or ends.
func (m *mixer) step(now *moments, turns, seldom int) step {
	if m.below(seldom) == 0 {
		switch m.below(3) {
		case 0:
			return m.crash(now)
		case 1:
			return step{call: "Sync"}
		}
		return step{call: "Home"}
	}
	if m.below(4) == 0 {
		return m.end(turns)
	}
	return m.write(turns)
}

// TestPlays (17.1, 17.2, P1, P3): whole plays, held against the second way, in which each call tells all that it may.
func TestPlays(t *testing.T) {
	mixed := mixer(17)
	told := map[string]int{}
	for play := range 200 {
		d, m := New(), newMoments()
		for range 200 {
			s := mixed.step(m, 1+play%20, mixed.of([]int{3, 10, 10, 60}))
			told[fmt.Sprint(s.call, " ", wantSameStep(t, d, m, s))]++
			if t.Failed() {
				t.FailNow()
			}
		}
		if play%4 == 0 {
			mixed.wantLongLog(t, d, m, told)
		}
	}
	all := []string{
		"Write OK", "Write ErrRange", "Write ErrState", "Write ErrFull", "End OK", "End ErrRange", "End ErrState", "End ErrFull",
		"Sync OK", "Crash OK", "Crash ErrRange", "Home OK", "Home ErrState",
	}
	for _, what := range all {
		if told[what] < 100 {
			t.Errorf("%s was told %d times: the plays are too poor", what, told[what])
		}
	}
	if len(told) != len(all) {
		t.Errorf("the plays told %v, want %v alone", told, all)
	}
}

// wantLongLog goes on with a play, with all turns and without a crash, until the log is as long as may be, and then crashes.
func (m *mixer) wantLongLog(t *testing.T, d *Disk, now *moments, told map[string]int) {
	t.Helper()
	wantSameStep(t, d, now, crash(now.records()))
	for range 120 {
		s := m.write(20)
		if m.below(9) == 0 {
			s = m.end(20)
		}
		told[fmt.Sprint(s.call, " ", wantSameStep(t, d, now, s))]++
	}
	wantSameStep(t, d, now, m.crash(now))
	if t.Failed() {
		t.FailNow()
	}
}

// TestPlaysBesideEachOther (17.1, 17.2, P2): two disks are played in turns, each as if it were alone.
func TestPlaysBesideEachOther(t *testing.T) {
	mixed := mixer(171)
	disks := [2]*Disk{New(), New()}
	now := [2]*moments{newMoments(), newMoments()}
	for range 3_000 {
		who := mixed.below(2)
		wantSameStep(t, disks[who], now[who], mixed.step(now[who], 4, 6))
		wantState(t, "the other one", disks[1-who], now[1-who].String())
		if t.Failed() {
			t.FailNow()
		}
	}
}
