package cow

import (
	"fmt"
	"math"
	"slices"
	"strconv"
	"strings"
	"testing"

	"platterhold/api"
	"platterhold/plain"
)

// step is a Put, with what it is given.
type step struct{ version, key, value int }

// stepsOf are some Puts by their texts: 2:5=7 is one into version 2, at key 5, of 7; 5=7 is one into the version that the one
// ahead of it makes.
func stepsOf(text string) []step {
	var all []step
	for one := range strings.FieldsSeq(text) {
		version, rest, there := strings.Cut(one, ":")
		if !there {
			version, rest = strconv.Itoa(len(all)), one
		}
		key, value, _ := strings.Cut(rest, "=")
		all = append(all, step{number(version), number(key), number(value)})
	}
	return all
}

// number is a number by its text.
func number(text string) int {
	n, err := strconv.Atoi(text)
	if err != nil {
		panic(err)
	}
	return n
}

// String is the text of a Put.
func (s step) String() string { return fmt.Sprintf("%d:%d=%d", s.version, s.key, s.value) }

// on does the Put on a store.
func (s step) on(all *Store) (int, error) { return all.Put(s.version, s.key, s.value) }

// lastOf is the number of the last version that can be asked for; it looks no further than to where far too many are.
func lastOf(s *Store) int {
	last := -1
	for last < 30 {
		if _, err := s.Keys(last + 1); err != nil {
			break
		}
		last++
	}
	return last
}

// versionOf is what can be asked of a version, as a text: its keys with their values, and how many nodes of it each version
// from 1 to itself has, too.
func versionOf(s *Store, version int) string {
	keys, err := s.Keys(version)
	text := ""
	if err != nil {
		text = fmt.Sprint(plain.Told(err), " ")
	}
	for _, key := range keys {
		value, err := s.Get(version, key)
		text += fmt.Sprint(key, "=", value, " ")
		if err != nil {
			text += fmt.Sprint(plain.Told(err), " ")
		}
	}
	shares := make([]int, version)
	for other := range shares {
		n, err := s.Shared(version, other+1)
		if err != nil {
			n = -int(plain.Told(err))
		}
		shares[other] = n
	}
	return text + "(" + strings.Trim(fmt.Sprint(shares), "[]") + ")"
}

// stateOf is what can be asked of all versions but version 0, which always is the same, as a text.
func stateOf(s *Store) string {
	var texts []string
	for version := 1; version <= lastOf(s); version++ {
		texts = append(texts, versionOf(s, version))
	}
	return strings.Join(texts, " | ")
}

// wantState asks for the state of a store.
func wantState(t *testing.T, what any, s *Store, want string) {
	t.Helper()
	if got := stateOf(s); got != want {
		t.Errorf("%v: got %q, want %q", what, got, want)
	}
}

// wantSound asks for what is true of every store: version 0 is empty, keys rise, a number beside them that is none is not there,
// a version has all of its own nodes, and two have as many of each other's, whichever is named first.
func wantSound(t *testing.T, what any, s *Store) {
	t.Helper()
	last := lastOf(s)
	if keys, err := s.Keys(0); len(keys) != 0 || err != nil {
		t.Errorf("%v: version 0 has %v, %v", what, keys, err)
	}
	for a := range last + 1 {
		keys, _ := s.Keys(a)
		for i, key := range keys {
			if i > 0 && key <= keys[i-1] || key < 0 || key > 1000 {
				t.Errorf("%v: version %d has the keys %v", what, a, keys)
			}
			for _, near := range []int{key - 1, key + 1} {
				if value, err := s.Get(a, near); !slices.Contains(keys, near) && (value != 0 || plain.Told(err) != api.ErrNone) {
					t.Errorf("%v: version %d has %d at %d, and %v", what, a, value, near, keys)
				}
			}
		}
		for b := range last + 1 {
			one, err := s.Shared(a, b)
			other, no := s.Shared(b, a)
			if one != other || err != nil || no != nil || one < 0 || one > len(keys) || a == b && one != len(keys) || b == 0 && one != 0 {
				t.Errorf("%v: versions %d and %d share %d and %d, %v and %v", what, a, b, one, other, err, no)
			}
		}
	}
}

// wantError asks for an error, for which nil alone stands for none.
func wantError(t *testing.T, what any, err error, want api.Errno) {
	t.Helper()
	if told := plain.Told(err); told != want || (err == nil) != (want == api.OK) {
		t.Errorf("%v: error %v (nil: %v), want %v", what, told, err == nil, want)
	}
}

// wantPut does a Put that comes off: its version is the next one, and all others stay as they were.
func wantPut(t *testing.T, s *Store, one step, want string) {
	t.Helper()
	was, last := stateOf(s), lastOf(s)
	made, err := one.on(s)
	wantError(t, one, err, api.OK)
	if made != last+1 {
		t.Errorf("%v: got %d, want %d", one, made, last+1)
	}
	if was != "" {
		was += " | "
	}
	wantState(t, one, s, was+want)
	wantSound(t, one, s)
}

// wantFruitless does a Put that is an error: no number is told, and the state is as it was.
func wantFruitless(t *testing.T, s *Store, one step, want api.Errno) {
	t.Helper()
	was := stateOf(s)
	made, err := one.on(s)
	wantError(t, one, err, want)
	if made != 0 {
		t.Errorf("%v: got %d beside an error", one, made)
	}
	wantState(t, one, s, was)
}

// behind is a store behind Puts that come off.
func behind(t *testing.T, text string) *Store {
	t.Helper()
	s := New()
	for i, one := range stepsOf(text) {
		if made, err := one.on(s); made != i+1 || err != nil {
			t.Fatalf("%s: %v told %d, %v", text, one, made, err)
		}
	}
	return s
}

// play are Puts, and what their versions are, the first one first.
type play struct {
	steps string
	want  []string
}

// wantPlays does each of some plays.
func wantPlays(t *testing.T, all ...play) {
	t.Helper()
	for _, one := range all {
		s := New()
		for i, put := range stepsOf(one.steps) {
			wantPut(t, s, put, one.want[i])
		}
		wantState(t, one.steps, s, strings.Join(one.want, " | "))
	}
}

// probes are keys at which something is put, to find out of which form a tree is.
func probes(s *Store) []int {
	keys := []int{0, 1, 350, 999, 1000}
	for version := range lastOf(s) + 1 {
		more, _ := s.Keys(version)
		keys = append(keys, more...)
	}
	slices.Sort(keys)
	return slices.Compact(keys)
}

// fates are all that can become of a store, as texts: the state now, what each version and each probe lead to, and the state
// behind so many Puts that no more comes off. The store is made anew for each.
func fates(made func() *Store) []string {
	whole := made()
	keys := probes(whole)
	all := []string{stateOf(whole)}
	for version := range lastOf(whole) + 1 {
		for _, key := range keys {
			s := made()
			n, err := s.Put(version, key, 777)
			all = append(all, fmt.Sprintf("%d:%d %d %v: %s", version, key, n, plain.Told(err), versionOf(s, lastOf(s))))
		}
	}
	for i := range 22 {
		n, err := whole.Put(i*7%22, i*131%1001, i)
		all = append(all, fmt.Sprint(i, n, plain.Told(err)))
	}
	return append(all, stateOf(whole))
}

// wantFates asks that of a store can become what is given.
func wantFates(t *testing.T, what any, made func() *Store, want []string) {
	t.Helper()
	got := fates(made)
	for i := range max(len(got), len(want)) {
		if i >= len(got) || i >= len(want) || got[i] != want[i] {
			t.Errorf("%v: got %q, want %q", what, got[min(i, len(got)-1)], want[min(i, len(want)-1)])
			return
		}
	}
}

// mixedUp are Puts behind which versions are in all ways that they can be: made of version 0, of the last one and of older
// ones, by keys that are new and by such as are there, at the root, between and at a leaf, with other values and with the
// same one. Version 9 is alike to version 1.
const mixedUp = "500=1 200=2 800=3 300=4 900=5 2:700=6 5:200=2 5:500=9 0:500=1 8:250=7 3:200=20 0=0 1000=1000"

// mixedUpVersions are the versions behind these.
func mixedUpVersions() []string {
	return []string{
		"500=1 (1)",
		"200=2 500=1 (0 2)",
		"200=2 500=1 800=3 (0 1 3)",
		"200=2 300=4 500=1 800=3 (0 0 1 4)",
		"200=2 300=4 500=1 800=3 900=5 (0 0 0 2 5)",
		"200=2 500=1 700=6 (0 1 1 0 0 3)",
		"200=2 300=4 500=1 800=3 900=5 (0 0 0 1 3 0 5)",
		"200=2 300=4 500=9 800=3 900=5 (0 0 0 2 4 0 3 5)",
		"500=1 (0 0 0 0 0 0 0 0 1)",
		"200=2 250=7 300=4 500=9 800=3 900=5 (0 0 0 0 2 0 2 2 0 6)",
		"200=20 500=1 800=3 (0 0 1 1 0 0 0 0 0 0 3)",
		"0=0 200=20 500=1 800=3 (0 0 1 1 0 0 0 0 0 0 1 4)",
		"0=0 200=20 500=1 800=3 1000=1000 (0 0 0 0 0 0 0 0 0 0 0 2 5)",
	}
}

// full are Puts behind which no more comes off.
const full = mixedUp + " 600=1 13:600=2 0:1000=3 1=4 1=5 17:1=6 19:2=7"

// rowOf are Puts of keys, each into the version that the one ahead makes, of values from 1 on.
func rowOf(keys ...int) string {
	var texts []string
	for i, key := range keys {
		texts = append(texts, fmt.Sprintf("%d=%d", key, i+1))
	}
	return strings.Join(texts, " ")
}

// farOff are numbers far off from all that may be, also such as end in fit bits.
func farOff() []int {
	return []int{
		-2, -20, -21, -256, -1000, -1001, 1002, 1023, 1024, 2000, 65536, 65537, 1 << 32, 1<<32 + 1, 1<<32 + 1000, -1 << 32,
		-1<<32 + 9, 1 << 62, 1<<62 + 1, -1 << 62, math.MinInt32, math.MaxInt32, math.MinInt, math.MinInt + 1,
		math.MinInt + 20, math.MaxInt - 1000, math.MaxInt - 1, math.MaxInt,
	}
}

// noVersions are numbers that no version has, of which there are so many beside version 0.
func noVersions(last int) []int {
	return append([]int{-1, last + 1, last + 2, -last - 1, -last - 2, 21, 22, 64, 255, 256}, farOff()...)
}

// noValues are numbers that can't be a key or a value.
func noValues() []int { return append([]int{-1, 1001}, farOff()...) }

// TestNumbers (20.1, P3): the numbers that bound things, which the tests here write out.
func TestNumbers(t *testing.T) {
	if api.MaxVersion != 20 || api.MaxValue != 1000 {
		t.Fatalf("MaxVersion %d, MaxValue %d", api.MaxVersion, api.MaxValue)
	}
}

// TestNew (20.1): version 0 is there alone, and is empty.
func TestNew(t *testing.T) {
	s := New()
	wantState(t, "new", s, "")
	wantSound(t, "new", s)
	keys, err := s.Keys(0)
	wantError(t, "Keys", err, api.OK)
	if len(keys) != 0 {
		t.Errorf("Keys: got %v, want none", keys)
	}
	shared, err := s.Shared(0, 0)
	wantError(t, "Shared", err, api.OK)
	if shared != 0 {
		t.Errorf("Shared: got %d, want 0", shared)
	}
	_, err = s.Keys(1)
	wantError(t, "Keys of version 1", err, api.ErrRange)
	wantPut(t, s, step{0, 5, 7}, "5=7 (1)")
}

// TestByHand (20.1): what can be followed on paper.
func TestByHand(t *testing.T) {
	s := New()
	for _, one := range []struct{ put, want string }{
		{"0:5=7", "5=7 (1)"},
		{"1:3=1", "3=1 5=7 (0 2)"},
		{"2:8=2", "3=1 5=7 8=2 (0 1 3)"},
		{"3:4=4", "3=1 4=4 5=7 8=2 (0 0 1 4)"},
		{"4:9=3", "3=1 4=4 5=7 8=2 9=3 (0 0 0 2 5)"},
		{"5:3=6", "3=6 4=4 5=7 8=2 9=3 (0 0 0 1 3 5)"},
		{"3:5=0", "3=1 5=0 8=2 (0 1 2 1 0 0 3)"},
		{"0:5=7", "5=7 (0 0 0 0 0 0 0 1)"},
		{"7:5=0", "3=1 5=0 8=2 (0 1 2 1 0 0 2 0 3)"},
	} {
		wantPut(t, s, stepsOf(one.put)[0], one.want)
	}
	wantPlays(t, play{mixedUp, mixedUpVersions()})
}

// TestTwoStores (20.1, P2): two stores share nothing, whichever one was made first.
func TestTwoStores(t *testing.T) {
	one, other := New(), New()
	do := func(s *Store, text string) {
		for _, put := range stepsOf(text) {
			put.on(s)
		}
	}
	do(one, "5=1 3=2")
	wantState(t, "the other one", other, "")
	do(other, "5=1 3=9 0:7=4")
	wantState(t, "one", one, "5=1 (1) | 3=2 5=1 (0 2)")
	wantState(t, "the other one", other, "5=1 (1) | 3=9 5=1 (0 2) | 7=4 (0 0 1)")
	one.Put(2, 7, 6)
	do(other, full)
	wantState(t, "one", one, "5=1 (1) | 3=2 5=1 (0 2) | 3=2 5=1 7=6 (0 1 3)")
	wantState(t, "a new one", New(), "")
	wantPut(t, one, step{1, 5, 2}, "5=2 (0 0 0 1)")
}

// TestManyTimes (20.1, P1): a store may be asked, and be put into, as often as one likes; nothing is changed when it is full.
func TestManyTimes(t *testing.T) {
	s := behind(t, full)
	was := stateOf(s)
	for i := range 200_000 {
		_, err := s.Put(i%21, i*7%1001, i%1001)
		wantError(t, i, err, api.ErrFull)
		s.Get(i%23-1, i*7%1003-1)
		s.Keys(i%23 - 1)
		s.Shared(i%23-1, i/23%23-1)
	}
	wantState(t, "many times", s, was)
}
