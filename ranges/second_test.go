package ranges

import (
	"cmp"
	"fmt"
	"slices"
	"testing"

	"platterhold/api"
)

// runs is a table in another way than the program's: it knows no places, but the locks alone, as List tells them, which
// are cut where a step goes through them, and joined where they touch.
type runs []api.Lock

// end is the place behind a lock.
func end(l api.Lock) int { return l.From + l.Size }

// test is Test, of a lock that may be.
func (m runs) test(l api.Lock) int {
	for _, has := range m {
		if has.Owner != l.Owner && (has.Alone || l.Alone) && has.From < end(l) && l.From < end(has) {
			return has.Owner
		}
	}
	return -1
}

// without are the locks when an owner has nothing in a run: of each one what is ahead of it, and what is behind it.
func (m runs) without(l api.Lock) runs {
	var left runs
	for _, has := range m {
		ahead, behind := has, has
		if has.Owner == l.Owner {
			ahead.Size = min(end(has), l.From) - has.From
			behind.From = max(has.From, end(l))
			behind.Size = end(has) - behind.From
		} else {
			behind.Size = 0
		}
		for _, part := range []api.Lock{ahead, behind} {
			if part.Size > 0 {
				left = append(left, part)
			}
		}
	}
	return left
}

// with are the locks when a lock is set.
func (m runs) with(l api.Lock) runs {
	parts := append(m.without(l), l)
	slices.SortFunc(parts, func(a, b api.Lock) int {
		return cmp.Or(cmp.Compare(a.Owner, b.Owner), cmp.Compare(a.From, b.From))
	})
	joined := parts[:1]
	for _, next := range parts[1:] {
		last := &joined[len(joined)-1]
		if last.Owner == next.Owner && end(*last) == next.From && last.Alone == next.Alone {
			last.Size += next.Size
		} else {
			joined = append(joined, next)
		}
	}
	return joined
}

// String is the text of a table.
func (m runs) String() string { return textOfAll(m) }

// isOne tells whether a lock may be.
func isOne(l api.Lock) bool {
	return 0 <= l.Owner && l.Owner <= 3 && 0 <= l.From && l.From <= 63 && 0 < l.Size && l.Size <= 64 && end(l) <= 64
}

// then are the locks behind a step, and its error.
func (m runs) then(s step) (runs, api.Errno) {
	if !isOne(s.l) {
		return m, api.ErrRange
	}
	next := m.without(s.l)
	if s.call == "Set" {
		if m.test(s.l) >= 0 {
			return m, api.ErrClash
		}
		next = m.with(s.l)
	}
	if len(next) > 24 {
		return m, api.ErrFull
	}
	return next, api.OK
}

// wantSameTest tests a lock, and asks for what the second way has.
func wantSameTest(t *testing.T, table *Table, m runs, l api.Lock) api.Errno {
	t.Helper()
	if !isOne(l) {
		wantTest(t, table, l, 0, api.ErrRange)
		return api.ErrRange
	}
	wantTest(t, table, l, m.test(l), api.OK)
	return api.OK
}

// wantSameStep does a step, and asks for what the second way has behind it.
func wantSameStep(t *testing.T, table *Table, m *runs, s step) api.Errno {
	t.Helper()
	next, no := m.then(s)
	*m = next
	wantStep(t, table, s, no)
	wantTable(t, s, table, m.String())
	return no
}

// fewSteps are all steps of some owners in three places.
func fewSteps(first int, owners []int) []step {
	var all []step
	for _, l := range runsFrom(first, 3) {
		for _, l.Owner = range owners {
			l.Alone = true
			all = append(all, step{"Set", l}, step{"Free", l})
			l.Alone = false
			all = append(all, step{"Set", l}, step{"Free", l})
		}
	}
	return all
}

// wantAllSmall does all steps of three owners in three places on each table to which they lead, and tests each of their
// locks behind it. At a place each owner has something that is shared, or not, or one of them is alone: 11 ways.
func wantAllSmall(t *testing.T, first int, owners []int) {
	t.Helper()
	steps := fewSteps(first, owners)
	ways := []runs{nil}
	seen := map[string]bool{"": true}
	for at := 0; at < len(ways); at++ {
		for _, s := range steps {
			table, m := tableWith(t, ways[at]), ways[at]
			wantSameStep(t, table, &m, s)
			if shown := m.String(); !seen[shown] {
				seen[shown] = true
				ways = append(ways, m)
				for _, other := range steps {
					wantSameTest(t, table, m, other.l)
				}
			}
		}
		if t.Failed() {
			t.Fatalf("behind %v", ways[at])
		}
	}
	if len(ways) != 11*11*11 {
		t.Errorf("%d tables, want %d", len(ways), 11*11*11)
	}
}

// TestAllSmall (16.1): at the beginning and at the end, with other owners.
func TestAllSmall(t *testing.T) {
	wantAllSmall(t, 0, []int{0, 1, 3})
	wantAllSmall(t, 61, []int{1, 2, 3})
}

// TestAllFull (16.1): steps of each owner at each place, on tables with as many locks as may be, or nearly so.
func TestAllFull(t *testing.T) {
	told := map[api.Errno]int{}
	for _, text := range []string{
		row(1, 0, 24), striped(2, 24), striped(0, 23), row(3, 9, 22) + " 3:60+3!", row(0, 0, 23) + " 0:50+9",
		"0:0+64 1:0+64 2:0+64 " + row(3, 5, 21),
		row(0, 0, 12) + " " + row(1, 30, 12),
	} {
		table, start := tableOf(t, text), runs(locks(text))
		eachLock(func(l api.Lock) {
			if l.Size > 3 && end(l) != 64 && l.Size != 17 {
				return
			}
			wantSameTest(t, table, start, l)
			for _, call := range []string{"Set", "Free"} {
				m := start
				told[wantSameStep(t, table, &m, step{call, l})]++
				if !slices.Equal(m, start) {
					table = tableWith(t, start)
				}
			}
		})
	}
	if told[api.OK] < 1000 || told[api.ErrClash] < 1000 || told[api.ErrFull] < 1000 || len(told) != 3 {
		t.Errorf("told %v: the tables are too poor", told)
	}
}

// mixer tells numbers in an order that looks mixed, and is the same each time.
type mixer uint32

// below is the next number, from 0 to top - 1.
func (m *mixer) below(top int) int {
	*m = *m*1664525 + 1013904223
	return int(*m>>16) % top
}

// of is the next one of some numbers.
func (m *mixer) of(some []int) int { return some[m.below(len(some))] }

// lock is the next lock, one time of so many alone, and now and then none.
func (m *mixer) lock(shared int) api.Lock {
	from := m.below(64)
	size := 1 + m.below(min(64-from, m.of([]int{1, 2, 3, 9, 64})))
	l := api.Lock{Owner: m.below(4), From: from, Size: size, Alone: m.below(shared) == 0}
	switch m.below(40) {
	case 0:
		l.Owner = m.of(noOwners())
	case 1:
		l.From = m.of(noPlaces())
	case 2, 3:
		l.Size = m.of(noSizes(from))
	}
	return l
}

// step is the next step, of those Set more often than Free.
func (m *mixer) step(shared int) step {
	if m.below(4) == 0 {
		return step{"Free", m.lock(2)}
	}
	return step{"Set", m.lock(shared)}
}

// TestPlays (16.1, P1, P3): whole plays, held against the second way, in which each call tells all that it may.
func TestPlays(t *testing.T) {
	mixed := mixer(16)
	told := map[string]int{}
	for play := range 120 {
		table, m := New(), runs(nil)
		for range 150 {
			l := mixed.lock(2)
			told[fmt.Sprint("Test ", wantSameTest(t, table, m, l))]++
			s := mixed.step(2 + play%12)
			told[fmt.Sprint(s.call, " ", wantSameStep(t, table, &m, s))]++
			if t.Failed() {
				t.Fatalf("behind %v", m)
			}
		}
	}
	all := []string{"Test OK", "Test ErrRange", "Set OK", "Set ErrRange", "Set ErrClash", "Set ErrFull", "Free OK", "Free ErrRange", "Free ErrFull"}
	for _, what := range all {
		if told[what] < 50 {
			t.Errorf("%s was told %d times: the plays are too poor", what, told[what])
		}
	}
	if len(told) != len(all) {
		t.Errorf("the plays told %v, want %v alone", told, all)
	}
}

// TestPlaysBesideEachOther (16.1, P2): two tables are played in turns, each as if it were alone.
func TestPlaysBesideEachOther(t *testing.T) {
	mixed := mixer(161)
	tables := [2]*Table{New(), New()}
	now := [2]runs{}
	for range 2_000 {
		who := mixed.below(2)
		wantSameStep(t, tables[who], &now[who], mixed.step(6))
		wantTable(t, "the other one", tables[1-who], now[1-who].String())
		if t.Failed() {
			t.Fatalf("behind %v and %v", now[0], now[1])
		}
	}
}
