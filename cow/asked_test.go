package cow

import (
	"slices"
	"testing"

	"platterhold/api"
)

// wantGet asks for what Get tells.
func wantGet(t *testing.T, s *Store, version, key, want int, no api.Errno) {
	t.Helper()
	got, err := s.Get(version, key)
	wantError(t, step{version: version, key: key}, err, no)
	if got != want {
		t.Errorf("Get of %d in version %d: got %d, want %d", key, version, got, want)
	}
}

// wantKeys asks for what Keys tells.
func wantKeys(t *testing.T, s *Store, version int, want []int, no api.Errno) {
	t.Helper()
	got, err := s.Keys(version)
	wantError(t, version, err, no)
	if !slices.Equal(got, want) {
		t.Errorf("Keys of version %d: got %v, want %v", version, got, want)
	}
}

// mixedUpValues are the keys and values of each version behind mixedUp.
func mixedUpValues() []map[int]int {
	return []map[int]int{
		{},
		{500: 1},
		{500: 1, 200: 2},
		{500: 1, 200: 2, 800: 3},
		{500: 1, 200: 2, 800: 3, 300: 4},
		{500: 1, 200: 2, 800: 3, 300: 4, 900: 5},
		{500: 1, 200: 2, 700: 6},
		{500: 1, 200: 2, 800: 3, 300: 4, 900: 5},
		{500: 9, 200: 2, 800: 3, 300: 4, 900: 5},
		{500: 1},
		{500: 9, 200: 2, 800: 3, 300: 4, 900: 5, 250: 7},
		{500: 1, 200: 20, 800: 3},
		{500: 1, 200: 20, 800: 3, 0: 0},
		{500: 1, 200: 20, 800: 3, 0: 0, 1000: 1000},
	}
}

// TestGet (20.1): each key of each version, and each other one that could be a key: such as older versions, later ones or
// ones beside it have, and such as none has.
func TestGet(t *testing.T) {
	s := behind(t, mixedUp)
	for version, values := range mixedUpValues() {
		for key := range 1001 {
			value, there := values[key]
			if there {
				wantGet(t, s, version, key, value, api.OK)
			} else {
				wantGet(t, s, version, key, 0, api.ErrNone)
			}
		}
	}
}

// TestGetOthers (20.1): a version has its own keys and values alone, whatever the one that it is made of has now, or the ones
// that are made of it, or ones beside it.
func TestGetOthers(t *testing.T) {
	s := behind(t, "5=1 3=2 1:8=3 5=4 0:3=9")
	for version, values := range [][]int{
		{0, 0, 0},
		{0, 1, 0},
		{2, 1, 0},
		{0, 1, 3},
		{0, 4, 3},
		{9, 0, 0},
	} {
		for i, key := range []int{3, 5, 8} {
			if values[i] == 0 {
				wantGet(t, s, version, key, 0, api.ErrNone)
			} else {
				wantGet(t, s, version, key, values[i], api.OK)
			}
		}
	}
}

// TestGetZero (20.1): a key whose value is 0 is there, and so is the key 0.
func TestGetZero(t *testing.T) {
	s := behind(t, "0=0 1=0 0=7 0:1000=0")
	wantGet(t, s, 0, 0, 0, api.ErrNone)
	wantGet(t, s, 1, 0, 0, api.OK)
	wantGet(t, s, 1, 1, 0, api.ErrNone)
	wantGet(t, s, 2, 1, 0, api.OK)
	wantGet(t, s, 3, 0, 7, api.OK)
	wantGet(t, s, 4, 0, 0, api.ErrNone)
	wantGet(t, s, 4, 1000, 0, api.OK)
}

// TestGetNoKey (20.1, P1): of what can't be a key no version has one.
func TestGetNoKey(t *testing.T) {
	for _, text := range []string{"", "0=5 1000=6", mixedUp, full} {
		s := behind(t, text)
		for version := range lastOf(s) + 1 {
			for _, key := range noValues() {
				wantGet(t, s, version, key, 0, api.ErrNone)
			}
		}
	}
}

// TestGetNoVersion (20.1, P1): what is no version is ErrRange, whatever the key is.
func TestGetNoVersion(t *testing.T) {
	for _, text := range []string{"", "0=5 1000=6", mixedUp, full} {
		s := behind(t, text)
		for _, version := range noVersions(lastOf(s)) {
			for _, key := range append(noValues(), 0, 5, 500, 999, 1000) {
				wantGet(t, s, version, key, 0, api.ErrRange)
			}
		}
	}
}

// TestKeys (20.1): they rise, whatever the order in which they were put, and each is told once, however often it was put.
func TestKeys(t *testing.T) {
	s := behind(t, mixedUp)
	for version, want := range [][]int{
		{},
		{500},
		{200, 500},
		{200, 500, 800},
		{200, 300, 500, 800},
		{200, 300, 500, 800, 900},
		{200, 500, 700},
		{200, 300, 500, 800, 900},
		{200, 300, 500, 800, 900},
		{500},
		{200, 250, 300, 500, 800, 900},
		{200, 500, 800},
		{0, 200, 500, 800},
		{0, 200, 500, 800, 1000},
	} {
		for range 2 {
			wantKeys(t, s, version, want, api.OK)
		}
	}
	for _, keys := range append(rows(), []int{5, 5, 5, 3, 3, 5, 8, 8, 3}, []int{7, 1, 9, 7, 1, 9, 4, 4, 7, 2, 9, 1, 8, 3, 5, 0, 6}) {
		s := behind(t, rowOf(keys...))
		for version := range len(keys) + 1 {
			want := slices.Clone(keys[:version])
			slices.Sort(want)
			wantKeys(t, s, version, slices.Compact(want), api.OK)
		}
	}
}

// TestKeysNoVersion (20.1, P1): what is no version has none.
func TestKeysNoVersion(t *testing.T) {
	for _, text := range []string{"", "5=7", mixedUp, full} {
		s := behind(t, text)
		for _, version := range noVersions(lastOf(s)) {
			wantKeys(t, s, version, nil, api.ErrRange)
		}
	}
}

// TestKeysAreTheCallers (20.1, P2): a list that comes out may be changed, as far as its memory goes: neither the store nor any
// other list is then another one.
func TestKeysAreTheCallers(t *testing.T) {
	for _, text := range []string{"", "5=7", even, mixedUp, full} {
		made := func() *Store { return behind(t, text) }
		last, want := lastOf(made()), fates(made)
		wantFates(t, "a list was changed", func() *Store {
			s := made()
			for version := range last + 1 {
				one, _ := s.Keys(version)
				other, _ := s.Keys(version)
				beside, _ := s.Keys(max(version-1, 0))
				wantOther, wantBeside := slices.Clone(other), slices.Clone(beside)
				whole := one[:cap(one)]
				for i := range whole {
					whole[i] = -9
				}
				_ = append(one, 77, 78)
				if !slices.Equal(other, wantOther) || !slices.Equal(beside, wantBeside) {
					t.Errorf("%s: the keys of version %d were changed: %v and %v", text, version, other, beside)
				}
			}
			return s
		}, want)
	}
}

// TestKeysStay (20.1, P2): what was told stays as it is, whatever is put.
func TestKeysStay(t *testing.T) {
	s := New()
	var told, want [][]int
	for _, one := range stepsOf(full) {
		for version := range lastOf(s) + 1 {
			keys, _ := s.Keys(version)
			told, want = append(told, keys), append(want, slices.Clone(keys))
		}
		one.on(s)
		for i, keys := range told {
			if !slices.Equal(keys, want[i]) {
				t.Fatalf("%v: what was told was %v, and is %v", one, want[i], keys)
			}
		}
	}
	wantState(t, full, s, stateOf(behind(t, full)))
}

// TestAsked (20.1, P2): to ask changes nothing, whether there is an answer or none.
func TestAsked(t *testing.T) {
	for _, text := range []string{"", "5=7", even, mixedUp, full} {
		made := func() *Store { return behind(t, text) }
		wantFates(t, "asked", func() *Store {
			s := made()
			for _, version := range append(noVersions(lastOf(s)), 0, 1, 2, lastOf(s)) {
				s.Keys(version)
				for _, other := range append(noVersions(lastOf(s)), 0, 1, 2, lastOf(s), 500, 501) {
					s.Get(version, other)
					s.Shared(version, other)
				}
			}
			return s
		}, fates(made))
	}
}
