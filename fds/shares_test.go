package fds

import (
	"fmt"
	"math"
	"slices"
	"strings"
	"testing"

	"platterhold/api"
	"platterhold/plain"
)

// share is a file, with all numbers that have it, rising.
type share struct {
	fds         []int
	place, size int
}

// shares are a table in another way than the program's: by file, not by number. They stand in the order of their least
// numbers.
type shares []share

// sharesOf reads a text in which each file has its numbers, its place and its size, as 02:4/10.
func sharesOf(text string) shares {
	var all shares
	for _, word := range strings.Fields(text) {
		var one share
		fds, rest, _ := strings.Cut(word, ":")
		if _, err := fmt.Sscanf(rest, "%d/%d", &one.place, &one.size); err != nil {
			panic(word + ": " + err.Error())
		}
		for _, digit := range fds {
			one.fds = append(one.fds, int(digit-'0'))
		}
		all = append(all, one)
	}
	return all.inOrder()
}

// String is that text.
func (m shares) String() string {
	var b strings.Builder
	for _, one := range m {
		for _, fd := range one.fds {
			fmt.Fprint(&b, fd)
		}
		fmt.Fprintf(&b, ":%d/%d ", one.place, one.size)
	}
	return b.String()
}

// inOrder are the same ones, in their order, without such as no number has.
func (m shares) inOrder() shares {
	m = slices.DeleteFunc(m, func(one share) bool { return len(one.fds) == 0 })
	slices.SortFunc(m, func(a, b share) int { return a.fds[0] - b.fds[0] })
	return m
}

// again are the same ones once more, so that a step on them leaves these as they are.
func (m shares) again() shares {
	all := slices.Clone(m)
	for i := range all {
		all[i].fds = slices.Clone(all[i].fds)
	}
	return all
}

// of is the file that a number has; nil if it has none.
func (m shares) of(fd int) *share {
	for i := range m {
		if slices.Contains(m[i].fds, fd) {
			return &m[i]
		}
	}
	return nil
}

// ask is of, with the error where there is none.
func (m shares) ask(fd int) (*share, api.Errno) {
	if !slices.Contains([]int{0, 1, 2, 3, 4, 5, 6, 7}, fd) {
		return nil, api.ErrRange
	}
	if m.of(fd) == nil {
		return nil, api.ErrNone
	}
	return m.of(fd), api.OK
}

// free is the least number that has no file.
func (m shares) free() (int, api.Errno) {
	for fd := range 8 {
		if m.of(fd) == nil {
			return fd, api.OK
		}
	}
	return 0, api.ErrFull
}

// open is Open.
func (m *shares) open(size int) (int, api.Errno) {
	if size < 0 || size > 64 {
		return 0, api.ErrRange
	}
	fd, no := m.free()
	if no == api.OK {
		*m = append(*m, share{fds: []int{fd}, size: size}).inOrder()
	}
	return fd, no
}

// dup is Dup.
func (m *shares) dup(fd int) (int, api.Errno) {
	one, no := m.ask(fd)
	if no != api.OK {
		return 0, no
	}
	more, no := m.free()
	if no == api.OK {
		one.fds = append(one.fds, more)
		slices.Sort(one.fds)
		*m = m.inOrder()
	}
	return more, no
}

// close is Close.
func (m *shares) close(fd int) api.Errno {
	one, no := m.ask(fd)
	if no == api.OK {
		one.fds = slices.DeleteFunc(one.fds, func(other int) bool { return other == fd })
		*m = m.inOrder()
	}
	return no
}

// move is Move: the place is looked for among all of the file.
func (m *shares) move(fd, by int) (int, api.Errno) {
	one, no := m.ask(fd)
	if no != api.OK {
		return 0, no
	}
	for place := range one.size + 1 {
		if place-one.place == by {
			one.place = place
			return place, api.OK
		}
	}
	return 0, api.ErrRange
}

// places are what At has to tell of all numbers, and of one beyond each end.
func (m shares) places() [10]int {
	all := [10]int{-1, -1, -1, -1, -1, -1, -1, -1, -1, -1}
	for _, one := range m {
		for _, fd := range one.fds {
			all[fd+1] = one.place
		}
	}
	return all
}

// step is a call that may change a table: of Open n is a size, and of all others a number.
type step struct {
	call  string
	n, by int
}

// String shows a step.
func (s step) String() string {
	if s.call == "Move" {
		return fmt.Sprintf("Move(%d, %d)", s.n, s.by)
	}
	return fmt.Sprintf("%s(%d)", s.call, s.n)
}

// on does the step on a table.
func (s step) on(table *Table) (int, error) {
	switch s.call {
	case "Open":
		return table.Open(s.n)
	case "Dup":
		return table.Dup(s.n)
	case "Close":
		return 0, table.Close(s.n)
	case "Move":
		return table.Move(s.n, s.by)
	}
	panic("no such step: " + s.call)
}

// onShares does the step on shares.
func (s step) onShares(m *shares) (int, api.Errno) {
	switch s.call {
	case "Open":
		return m.open(s.n)
	case "Dup":
		return m.dup(s.n)
	case "Close":
		return 0, m.close(s.n)
	case "Move":
		return m.move(s.n, s.by)
	}
	panic("no such step: " + s.call)
}

// wantShares asks a table for all that can be told of it: each number is moved to both ends of its file, and back again,
// for which all that share it go along, and nothing else.
func wantShares(t *testing.T, what string, table *Table, m shares) {
	t.Helper()
	if got, want := places(table), m.places(); got != want {
		t.Errorf("%s: from number -1 on the places are %v, want %v", what, got, want)
	}
	now := m.again()
	for fd := range 8 {
		one := now.of(fd)
		if one == nil {
			continue
		}
		was, size := one.place, one.size
		for _, by := range []int{size - was, 1, -size, -1, was} {
			want, wantNo := now.move(fd, by)
			got, err := table.Move(fd, by)
			if told := plain.Told(err); got != want || told != wantNo {
				t.Errorf("%s: Move(%d, %d): got %d, %v, want %d, %v", what, fd, by, got, told, want, wantNo)
			}
			if got, want := places(table), now.places(); got != want {
				t.Errorf("%s: Move(%d, %d): from number -1 on the places are %v, want %v", what, fd, by, got, want)
			}
		}
	}
}

// wantTable asks for the same, by a text.
func wantTable(t *testing.T, what string, table *Table, text string) {
	t.Helper()
	wantShares(t, what, table, sharesOf(text))
}

// wantSameStep does a step on both, and asks for the same answer and the same places behind it.
func wantSameStep(t *testing.T, table *Table, m *shares, s step) api.Errno {
	t.Helper()
	want, wantNo := s.onShares(m)
	wantCall(t, table, s, want, wantNo)
	if got, want := places(table), m.places(); got != want {
		t.Errorf("%s: from number -1 on the places are %v, want %v", s, got, want)
	}
	return wantNo
}

// replayed are a table and its shares behind steps.
func replayed(steps []step) (*Table, *shares) {
	table, m := New(), &shares{}
	for _, s := range steps {
		s.on(table)
		s.onShares(m)
	}
	return table, m
}

// fewSteps are steps with each call, and with each number.
func fewSteps() []step {
	var all []step
	for _, size := range []int{-1, 0, 1, 2, 65} {
		all = append(all, step{call: "Open", n: size})
	}
	for fd := -1; fd <= 8; fd++ {
		all = append(all, step{call: "Dup", n: fd}, step{call: "Close", n: fd})
		for _, by := range []int{-2, -1, 0, 1, 2, math.MinInt, math.MaxInt} {
			all = append(all, step{"Move", fd, by})
		}
	}
	return all
}

// wantAllSmall does each of a few steps on each table to which a few of them lead from a start on.
func wantAllSmall(t *testing.T, start ...step) {
	t.Helper()
	const most = 500
	ways := [][]step{start}
	_, first := replayed(start)
	seen := map[string]bool{first.String(): true}
	for at := 0; at < len(ways); at++ {
		for _, s := range fewSteps() {
			table, m := replayed(ways[at])
			wantSameStep(t, table, m, s)
			wantShares(t, s.String(), table, *m)
			if shown := m.String(); !seen[shown] && len(ways) < most {
				seen[shown] = true
				ways = append(ways, append(slices.Clone(ways[at]), s))
			}
		}
		if t.Failed() {
			t.Fatalf("behind %v", ways[at])
		}
	}
	if len(ways) < most {
		t.Errorf("%d tables only", len(ways))
	}
}

// TestAllSmall (14.1): from a table on of which no number is given, or most, or all.
func TestAllSmall(t *testing.T) {
	wantAllSmall(t)
	dup := func(fd int) step { return step{call: "Dup", n: fd} }
	one, two := step{call: "Open", n: 1}, step{call: "Open", n: 2}
	wantAllSmall(t, two, one, dup(0), dup(1), two, dup(2))
	wantAllSmall(t, one, dup(0), dup(1), dup(2), dup(3), dup(4), dup(5), two)
}

// mixer tells numbers in an order that looks mixed, and is the same each time.
type mixer uint32

// below is the next number, from 0 to top - 1.
func (m *mixer) below(top int) int {
	*m = *m*1664525 + 1013904223
	return int(*m>>16) % top
}

// of is the next one of some numbers.
func (m *mixer) of(some []int) int { return some[m.below(len(some))] }

// number is the next one; now and then it is none.
func (m *mixer) number() int {
	if m.below(12) == 0 {
		return m.of(noNumbers())
	}
	return m.below(8)
}

// size is the next one; now and then it is none.
func (m *mixer) size() int {
	if m.below(8) == 0 {
		return m.of(noSizes())
	}
	return m.of([]int{0, 1, 2, 10, 63, 64, m.below(65), m.below(65)})
}

// by is the next move of a number, in most cases within its file.
func (m *mixer) by(now shares, fd int) int {
	one := now.of(fd)
	switch {
	case one == nil || m.below(10) == 0:
		return m.of(append(farBy(), 0, 1, -1))
	case m.below(4) == 0:
		return m.of([]int{-one.place - 1, -one.place, one.size - one.place, one.size - one.place + 1, 0, one.size, -one.size})
	}
	return m.below(one.size+1) - one.place
}

// step is the next one, of some calls.
func (m *mixer) step(now shares, calls []string) step {
	call := calls[m.below(len(calls))]
	if call == "Open" {
		return step{call: call, n: m.size()}
	}
	fd := m.number()
	if call == "Move" {
		return step{call, fd, m.by(now, fd)}
	}
	return step{call: call, n: fd}
}

// play does many steps on a table, which agrees with its shares behind each one, and counts what they told.
func play(t *testing.T, mixed *mixer, calls []string, told map[string]int) {
	t.Helper()
	table, m := New(), &shares{}
	for range 1_000 {
		s := mixed.step(*m, calls)
		isOpen := m.of(s.n) != nil
		what := fmt.Sprint(s.call, " ", wantSameStep(t, table, m, s))
		if s.call == "Move" && isOpen {
			what += " of what is open"
		}
		told[what]++
		if t.Failed() {
			t.FailNow()
		}
	}
	wantShares(t, "play", table, *m)
}

// TestPlays (14.1, P1, P3): whole plays, held against the shares, in which each call tells all that it may.
func TestPlays(t *testing.T) {
	mixed := mixer(14)
	told := map[string]int{}
	for range 40 {
		play(t, &mixed, []string{"Open", "Dup", "Close", "Move"}, told)
		play(t, &mixed, []string{"Open", "Dup", "Close", "Close", "Close", "Move", "Move"}, told)
		play(t, &mixed, []string{"Open", "Open", "Dup", "Dup", "Dup", "Close", "Move", "Move", "Move"}, told)
	}
	all := []string{
		"Open OK", "Open ErrRange", "Open ErrFull", "Dup OK", "Dup ErrRange", "Dup ErrNone", "Dup ErrFull",
		"Close OK", "Close ErrRange", "Close ErrNone",
		"Move ErrRange", "Move ErrNone", "Move OK of what is open", "Move ErrRange of what is open",
	}
	for _, what := range all {
		if told[what] < 100 {
			t.Errorf("%s was told %d times: the plays are too poor", what, told[what])
		}
	}
	if len(told) != len(all) {
		t.Errorf("the plays told %v, want %v alone", told, all)
	}
}

// TestPlaysBesideEachOther (14.1, P2): two tables are played in turns, each as if it were alone.
func TestPlaysBesideEachOther(t *testing.T) {
	mixed := mixer(141)
	tables := [2]*Table{New(), New()}
	now := [2]*shares{{}, {}}
	for range 10_000 {
		who := mixed.below(2)
		wantSameStep(t, tables[who], now[who], mixed.step(*now[who], []string{"Open", "Dup", "Close", "Move", "Move"}))
		if got, want := places(tables[1-who]), now[1-who].places(); got != want {
			t.Fatalf("the other one: from number -1 on the places are %v, want %v", got, want)
		}
		if t.Failed() {
			t.FailNow()
		}
	}
	for who := range 2 {
		wantShares(t, "beside the other one", tables[who], *now[who])
	}
}
