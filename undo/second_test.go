package undo

import (
	"fmt"
	"slices"
	"strings"
	"testing"

	"platterhold/api"
)

// kept is a block: what is in it, and, while a turn has it, what was there ahead of the turn, and how often it wrote.
type kept struct {
	now, was, writes int
	turn             int // 0: nobody's; else the turn, and one more
}

// blocks is a disk in another way than the program's: it knows no notes, but of each block what was there ahead of the turn.
type blocks [8]kept

// writes are how many notes there must be.
func (b *blocks) writes() int {
	n := 0
	for _, one := range b {
		n += one.writes
	}
	return n
}

// write is Write.
func (b *blocks) write(p api.Put) api.Errno {
	if p.Turn < 0 || p.Turn > 19 || p.Block < 0 || p.Block > 7 || p.Value < 0 || p.Value > 1000 {
		return api.ErrRange
	}
	one := &b[p.Block]
	switch {
	case one.turn != 0 && one.turn != p.Turn+1:
		return api.ErrClash
	case b.writes() >= 60:
		return api.ErrFull
	case one.turn == 0:
		one.turn, one.was = p.Turn+1, one.now
	}
	one.now = p.Value
	one.writes++
	return api.OK
}

// free makes all blocks of a turn nobody's, with what is in them, or with what was there.
func (b *blocks) free(turn int, stays bool) api.Errno {
	if turn < 0 || turn > 19 {
		return api.ErrRange
	}
	for i, one := range b {
		switch {
		case one.turn != turn+1:
		case stays:
			b[i] = kept{now: one.now}
		default:
			b[i] = kept{now: one.was}
		}
	}
	return api.OK
}

// do does a step.
func (b *blocks) do(s step) api.Errno {
	switch s.call {
	case "Write":
		return b.write(s.put)
	case "End":
		return b.free(s.put.Turn, true)
	case "Undo":
		return b.free(s.put.Turn, false)
	}
	for turn := range 20 {
		b.free(turn, false)
	}
	return api.OK
}

// String is the state, as stateOf tells it.
func (b *blocks) String() string {
	var texts []string
	for i, one := range b {
		if one.turn != 0 {
			texts = append(texts, fmt.Sprintf("%d:%d=%d", one.turn-1, i, one.now))
		} else if one.now != 0 {
			texts = append(texts, fmt.Sprintf("%d=%d", i, one.now))
		}
	}
	return strings.Join(texts, " ")
}

// wantSameStep does a step on both, and asks for the same error, and for the same state behind it.
func wantSameStep(t *testing.T, d *Disk, b *blocks, s step) api.Errno {
	t.Helper()
	no := b.do(s)
	wantStep(t, d, s, no)
	wantState(t, s, d, b.String())
	return no
}

// replayed are both behind steps.
func replayed(steps []step) (*Disk, *blocks) {
	d, b := New(), &blocks{}
	for _, s := range steps {
		s.on(d)
		b.do(s)
	}
	return d, b
}

// fewSteps are all steps of two turns with two blocks, and such as can't be; each turn writes values of its own.
func fewSteps(one, other, block, next int) []step {
	return []step{
		write(one, block, 1), write(one, next, 2), write(one, block, 3), write(other, block, 4), write(other, next, 1000),
		write(other, block, 0), end(one), end(other), back(one), back(other), {call: "Crash"},
		write(-1, block, 1), write(20, block, 1), write(one, -1, 1), write(other, 8, 1), write(one, block, -1),
		write(other, next, 1001), end(-1), end(20), back(-1), back(20),
	}
}

// wantAllSmall does each of a few steps on each disk to which a few of them lead, the nearest first.
func wantAllSmall(t *testing.T, steps []step, most int) {
	t.Helper()
	ways := [][]step{nil}
	seen := map[blocks]bool{{}: true}
	for at := 0; at < len(ways); at++ {
		for _, s := range steps {
			d, b := replayed(ways[at])
			wantSameStep(t, d, b, s)
			if !seen[*b] && len(ways) < most {
				seen[*b] = true
				ways = append(ways, append(slices.Clone(ways[at]), s))
			}
		}
		if t.Failed() {
			t.Fatalf("behind %v", ways[at])
		}
	}
	if len(ways) < most {
		t.Errorf("%d disks only", len(ways))
	}
}

// TestAllSmall (18.1): with the first two turns and blocks, and with the first and the last one.
func TestAllSmall(t *testing.T) {
	wantAllSmall(t, fewSteps(0, 1, 0, 1), 3000)
	wantAllSmall(t, fewSteps(19, 0, 7, 0), 3000)
}

// mixer tells numbers in an order that looks mixed, and is the same each time.
type mixer uint32

// below is the next number, from 0 to top - 1.
func (m *mixer) below(top int) int {
	*m = *m*1664525 + 1013904223
	return int(*m>>16) % top
}

// of is the next one of some numbers.
func (m *mixer) of(some []int) int { return some[m.below(len(some))] }

// turn is the next one of so many turns; now and then it is none.
func (m *mixer) turn(turns int) int {
	if m.below(30) == 0 {
		return m.of(noTurns())
	}
	return m.below(turns)
}

// write is the next Write, of one of so many turns, more often than not into a block that it may write; now and then it is
// none.
func (m *mixer) write(now *blocks, turns int) step {
	s := write(m.turn(turns), m.below(8), m.of([]int{0, 1, 1000, m.below(1001), m.below(1001)}))
	if whose := now[s.put.Block].turn; whose != 0 && m.below(4) > 0 {
		s.put.Turn = whose - 1
	}
	switch m.below(20) {
	case 0:
		s.put.Block = m.of(noBlocks())
	case 1:
		s.put.Value = m.of(noValues())
	}
	return s
}

// step is the next step, of one of so many turns; one time of so many it is none that writes.
func (m *mixer) step(now *blocks, turns, seldom int) step {
	if m.below(seldom) > 0 {
		return m.write(now, turns)
	}
	switch m.below(7) {
	case 0:
		return step{call: "Crash"}
	case 1, 2, 3:
		return back(m.turn(turns))
	}
	return end(m.turn(turns))
}

// TestPlays (18.1, P1, P3): whole plays, held against the second way, in which each call tells all that it may.
func TestPlays(t *testing.T) {
	mixed := mixer(18)
	told := map[string]int{}
	for play := range 200 {
		d, b := New(), &blocks{}
		seldom := []int{2, 4, 10, 100}[play%4]
		for range 400 {
			s := mixed.step(b, 1+play%20, seldom)
			told[fmt.Sprint(s.call, " ", wantSameStep(t, d, b, s))]++
			if t.Failed() {
				t.FailNow()
			}
		}
	}
	all := []string{
		"Write OK", "Write ErrRange", "Write ErrClash", "Write ErrFull", "End OK", "End ErrRange", "Undo OK", "Undo ErrRange",
		"Crash OK",
	}
	for _, what := range all {
		if told[what] < 100 {
			t.Errorf("%s was told %d times: the plays are too poor", what, told[what])
		}
	}
	if len(told) != len(all) {
		t.Errorf("the plays told %v, want %v alone", told, all)
	}
}

// TestPlaysBesideEachOther (18.1, P2): two disks are played in turns, each as if it were alone.
func TestPlaysBesideEachOther(t *testing.T) {
	mixed := mixer(181)
	disks := [2]*Disk{New(), New()}
	now := [2]*blocks{{}, {}}
	for range 10_000 {
		who := mixed.below(2)
		wantSameStep(t, disks[who], now[who], mixed.step(now[who], 4, 5))
		wantState(t, "the other one", disks[1-who], now[1-who].String())
		if t.Failed() {
			t.FailNow()
		}
	}
}
