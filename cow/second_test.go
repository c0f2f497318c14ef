package cow

import (
	"fmt"
	"slices"
	"testing"

	"platterhold/api"
)

// entry is a key of a version: its value, and the version that its node was made for.
type entry struct{ key, value, made int }

// entries are a version in another way than the program's: it has no nodes that lead to others, but its keys in the order in
// which they first came. Of two versions that have a key, the node is the same if it was made for the same version, since a
// Put makes one node of a key at most.
type entries []entry

// index is where a key is; -1: nowhere.
func (e entries) index(key int) int {
	return slices.IndexFunc(e, func(one entry) bool { return one.key == key })
}

// onWay tells whether the node of entry i is on the way to a key: no key came ahead of it from its own to that one.
func (e entries) onWay(i, key int) bool {
	from, to := min(e[i].key, key), max(e[i].key, key)
	return !slices.ContainsFunc(e[:i], func(one entry) bool { return one.key >= from && one.key <= to })
}

// with are the entries with a value at a key, made for a version.
func (e entries) with(key, value, version int) entries {
	next := slices.Clone(e)
	if next.index(key) < 0 {
		next = append(next, entry{key: key})
	}
	next[next.index(key)].value = value
	for i := range next {
		if next.onWay(i, key) {
			next[i].made = version
		}
	}
	return next
}

// versions are a store in that way.
type versions []entries

// has tells whether there is a version.
func (v versions) has(version int) bool { return version >= 0 && version < len(v) }

// put is Put.
func (v *versions) put(one step) (int, api.Errno) {
	for _, number := range []int{one.key, one.value} {
		if !v.has(one.version) || number < 0 || number > 1000 {
			return 0, api.ErrRange
		}
	}
	if len(*v) == 21 {
		return 0, api.ErrFull
	}
	*v = append(*v, (*v)[one.version].with(one.key, one.value, len(*v)))
	return len(*v) - 1, api.OK
}

// get is Get.
func (v versions) get(version, key int) (int, api.Errno) {
	if !v.has(version) {
		return 0, api.ErrRange
	}
	at := v[version].index(key)
	if at < 0 {
		return 0, api.ErrNone
	}
	return v[version][at].value, api.OK
}

// shared is Shared.
func (v versions) shared(a, b int) (int, api.Errno) {
	if !v.has(a) || !v.has(b) {
		return 0, api.ErrRange
	}
	both := 0
	for _, one := range v[a] {
		if at := v[b].index(one.key); at >= 0 && v[b][at].made == one.made {
			both++
		}
	}
	return both, api.OK
}

// keys is Keys.
func (v versions) keys(version int) ([]int, api.Errno) {
	if !v.has(version) {
		return nil, api.ErrRange
	}
	var keys []int
	for _, one := range v[version] {
		keys = append(keys, one.key)
	}
	slices.Sort(keys)
	return keys, api.OK
}

// wantSamePut does a Put on both, and asks for the same answer; the answer is told.
func wantSamePut(t *testing.T, s *Store, v *versions, one step) string {
	t.Helper()
	want, no := v.put(one)
	got, err := one.on(s)
	wantError(t, one, err, no)
	if got != want {
		t.Errorf("%v: got %d, want %d", one, got, want)
	}
	return fmt.Sprint("Put ", want, " ", no)
}

// wantSameAsked asks both for the same; the errors are told.
func wantSameAsked(t *testing.T, s *Store, v versions, a, b, key int) []string {
	t.Helper()
	keys, noKeys := v.keys(a)
	wantKeys(t, s, a, keys, noKeys)
	value, noValue := v.get(a, key)
	wantGet(t, s, a, key, value, noValue)
	shared, noShared := v.shared(a, b)
	wantShared(t, s, a, b, shared, noShared)
	return []string{fmt.Sprint("Keys ", noKeys), fmt.Sprint("Get ", noValue), fmt.Sprint("Shared ", noShared)}
}

// wantSame asks both for all versions that there are, for each key of any of them, and for all that two of them share.
func wantSame(t *testing.T, what any, s *Store, v versions) {
	t.Helper()
	if last := lastOf(s); last != len(v)-1 {
		t.Fatalf("%v: the last version is %d, want %d", what, last, len(v)-1)
	}
	for a := range v {
		for b := range a + 1 {
			shared, no := v.shared(a, b)
			wantShared(t, s, a, b, shared, no)
			for _, one := range v[b] {
				value, no := v.get(a, one.key)
				wantGet(t, s, a, one.key, value, no)
			}
		}
		keys, no := v.keys(a)
		wantKeys(t, s, a, keys, no)
	}
	if t.Failed() {
		t.Fatalf("behind %v", what)
	}
}

// replayed are both behind Puts.
func replayed(puts []step) (*Store, *versions) {
	s, v := New(), &versions{nil}
	for _, one := range puts {
		one.on(s)
		v.put(one)
	}
	return s, v
}

// wantAllSmall does all that so many Puts of a few keys and values can be, into any of the versions that there are, and tells
// how many stores that are. Behind the last one some Puts are tried that can't be.
func wantAllSmall(t *testing.T, puts []step, keys, values []int, more int) int {
	t.Helper()
	if more == 0 {
		s, v := replayed(puts)
		last := len(puts)
		for _, bad := range []step{{-1, 5, 5}, {last + 1, 5, 5}, {last, -1, 5}, {last, 1001, 5}, {last, 5, -1}, {0, 5, 1001}} {
			wantSamePut(t, s, v, bad)
		}
		wantSame(t, puts, s, *v)
		return 1
	}
	stores := 0
	for version := range len(puts) + 1 {
		for _, key := range keys {
			for _, value := range values {
				stores += wantAllSmall(t, append(slices.Clone(puts), step{version, key, value}), keys, values, more-1)
			}
		}
	}
	return stores
}

// TestAllSmall (20.1): all stores behind a few Puts, of a few keys and values.
func TestAllSmall(t *testing.T) {
	for _, one := range []struct {
		keys, values []int
		puts, want   int
	}{
		{[]int{5}, []int{0, 1, 1000}, 4, 1944},
		{[]int{0, 1000}, []int{3, 4}, 4, 6144},
		{[]int{500, 501, 502}, []int{7}, 5, 29160},
		{[]int{1, 2, 3, 4}, []int{0}, 4, 6144},
		{[]int{9, 8, 7}, []int{1, 2}, 3, 1296},
	} {
		if got := wantAllSmall(t, nil, one.keys, one.values, one.puts); got != one.want {
			t.Errorf("%v: %d stores, want %d", one, got, one.want)
		}
	}
}

// wantOrders asks for the trees into which keys are put in each order behind some, and for what comes of a Put of each key of
// the last one, and of new ones below each of its nodes; it tells how many trees that are.
func wantOrders(t *testing.T, order, keys []int) int {
	t.Helper()
	if len(keys) == 0 {
		s, v := replayed(stepsOf(rowOf(order...)))
		for key := 5; key <= 10*len(order)+5; key += 5 {
			wantSamePut(t, s, v, step{len(order), key, 99})
		}
		wantSame(t, order, s, *v)
		return 1
	}
	trees := 0
	for i, key := range keys {
		trees += wantOrders(t, append(slices.Clone(order), key), slices.Delete(slices.Clone(keys), i, i+1))
	}
	return trees
}

// TestOrders (20.1): all trees of some keys, which were put in each order that there is.
func TestOrders(t *testing.T) {
	keys := []int{10, 20, 30, 40, 50, 60}
	for many, want := range []int{1, 1, 2, 6, 24, 120, 720} {
		if got := wantOrders(t, nil, keys[:many]); got != want {
			t.Errorf("%d trees of %d keys, want %d", got, many, want)
		}
	}
}

// mixer tells numbers in an order that looks mixed, and is the same each time.
type mixer uint32

// below is the next number, from 0 to top - 1.
func (m *mixer) below(top int) int {
	*m = *m*1664525 + 1013904223
	return int(*m>>16) % top
}

// of is the next one of some numbers.
func (m *mixer) of(some []int) int { return some[m.below(len(some))] }

// version is the next version of so many beside version 0, often one of the last ones; now and then it is none.
func (m *mixer) version(last int) int {
	switch m.below(16) {
	case 0:
		return m.of(noVersions(last))
	case 1, 2, 3, 4:
		return m.below(last + 1)
	}
	return max(last-m.below(3), 0)
}

// key is the next one of so many keys, which are all over what may be; now and then it is none.
func (m *mixer) key(many int) int {
	if m.below(24) == 0 {
		return m.of(noValues())
	}
	return m.below(many) * 1000 / max(many-1, 1)
}

// value is the next value; now and then it is none.
func (m *mixer) value() int {
	if m.below(24) == 0 {
		return m.of(noValues())
	}
	return m.of([]int{0, 1, 1000, m.below(1001), m.below(1001)})
}

// answers are all that the calls can tell, of Get, Keys and Shared the errors alone.
func answers() []string {
	all := []string{
		"Put 0 ErrRange", "Put 0 ErrFull", "Get OK", "Get ErrRange", "Get ErrNone", "Keys OK", "Keys ErrRange", "Shared OK",
		"Shared ErrRange",
	}
	for version := 1; version <= 20; version++ {
		all = append(all, fmt.Sprintf("Put %d OK", version))
	}
	return all
}

// TestPlays (20.1, P1): whole plays, held against the second way, in which each call tells all that it may.
func TestPlays(t *testing.T) {
	mixed := mixer(20)
	told := map[string]int{}
	for play := range 180 {
		s, v := replayed(nil)
		many := []int{1, 2, 3, 5, 8, 20, 1001}[play%7]
		for range 40 {
			last := len(*v) - 1
			told[wantSamePut(t, s, v, step{mixed.version(last), mixed.key(many), mixed.value()})]++
			for _, what := range wantSameAsked(t, s, *v, mixed.version(last), mixed.version(last), mixed.key(many)) {
				told[what]++
			}
			wantSame(t, play, s, *v)
		}
		wantSound(t, play, s)
	}
	for _, what := range answers() {
		if told[what] < 100 {
			t.Errorf("%s was told %d times: the plays are too poor", what, told[what])
		}
	}
	if len(told) != len(answers()) {
		t.Errorf("the plays told %v, want %v alone", told, answers())
	}
}

// TestPlaysBesideEachOther (20.1, P2): two stores are played in turns, each as if it were alone.
func TestPlaysBesideEachOther(t *testing.T) {
	mixed := mixer(201)
	for play := range 50 {
		var stores [2]*Store
		var now [2]*versions
		for who := range stores {
			stores[who], now[who] = replayed(nil)
		}
		for range 60 {
			who := mixed.below(2)
			wantSamePut(t, stores[who], now[who], step{mixed.version(len(*now[who]) - 1), mixed.key(6), mixed.value()})
			for i, s := range stores {
				wantSame(t, play, s, *now[i])
			}
		}
	}
}
