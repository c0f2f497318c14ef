package cow

import (
	"strings"
	"testing"

	"platterhold/api"
)

// wantShared asks for how many nodes two versions share, both ways round.
func wantShared(t *testing.T, s *Store, a, b, want int, no api.Errno) {
	t.Helper()
	for range 2 {
		got, err := s.Shared(a, b)
		wantError(t, []int{a, b}, err, no)
		if got != want {
			t.Errorf("Shared by %d and %d: got %d, want %d", a, b, got, want)
		}
		a, b = b, a
	}
}

// TestSharedItself (20.1): a version has all of its own nodes.
func TestSharedItself(t *testing.T) {
	s := behind(t, mixedUp)
	for version, want := range []int{0, 1, 2, 3, 4, 5, 3, 5, 5, 1, 6, 3, 4, 5} {
		wantShared(t, s, version, version, want, api.OK)
	}
}

// TestSharedNothing (20.1): version 0 has no nodes that any version could have.
func TestSharedNothing(t *testing.T) {
	s := behind(t, full)
	for version := range 21 {
		wantShared(t, s, 0, version, 0, api.OK)
	}
}

// TestSharedMade (20.1): with the version that it was made of, with the ones of which that was made, with those that were made
// of it, and with those beside it.
func TestSharedMade(t *testing.T) {
	s := behind(t, "5=1 3=2 8=3 9=4 3:4=5 4:3=6 3:8=7")
	for _, one := range []struct{ a, b, want int }{
		{1, 2, 0},
		{2, 3, 1},
		{1, 3, 0},
		{3, 4, 1},
		{2, 4, 1},
		{1, 4, 0},
		{3, 5, 1},
		{4, 5, 0},
		{2, 5, 0},
		{4, 6, 2},
		{3, 6, 0},
		{5, 6, 0},
		{3, 7, 1},
		{2, 7, 1},
		{4, 7, 1},
		{5, 7, 0},
		{6, 7, 0},
		{1, 7, 0},
	} {
		wantShared(t, s, one.a, one.b, one.want, api.OK)
	}
}

// TestSharedAlike (20.1): nodes with the same key and the same value are not the same if they were made by two Puts.
func TestSharedAlike(t *testing.T) {
	for _, text := range []string{"5=1 0:5=1", "5=1 5=1", "5=0 0:5=0", "5=1 3=2 0:3=2 5=1", "5=1 3=2 0:5=1 3=2", "5=1 3=2 1:3=2"} {
		s := behind(t, text)
		last := lastOf(s)
		wantShared(t, s, last/2, last, 0, api.OK)
		wantShared(t, s, 1, last, 0, api.OK)
	}
	s := behind(t, "5=1 3=2 8=3 2:8=3 1:8=3 3=2 3:3=2")
	wantState(t, "alike", s, strings.Join([]string{
		"5=1 (1)",
		"3=2 5=1 (0 2)",
		"3=2 5=1 8=3 (0 1 3)",
		"3=2 5=1 8=3 (0 1 1 3)",
		"5=1 8=3 (0 0 0 0 2)",
		"3=2 5=1 8=3 (0 0 0 0 1 3)",
		"3=2 5=1 8=3 (0 0 1 0 0 0 3)",
	}, " | "))
}

// TestSharedNoVersion (20.1, P1): the one, the other, or both are not there.
func TestSharedNoVersion(t *testing.T) {
	for _, text := range []string{"", "5=7", mixedUp, full} {
		s := behind(t, text)
		last := lastOf(s)
		for _, bad := range noVersions(last) {
			for version := range last + 1 {
				wantShared(t, s, bad, version, 0, api.ErrRange)
			}
			for _, other := range noVersions(last) {
				wantShared(t, s, bad, other, 0, api.ErrRange)
			}
		}
	}
}

// TestSharedFar (20.1): versions that are far from each other have what no Put between them came through.
func TestSharedFar(t *testing.T) {
	// Each version from 7 to 19 has three nodes on the left that version 4 had, and one on the right that version 6 had.
	s := behind(t, "500=1 200=1 100=1 300=1 800=1 700=1 900=1"+strings.Repeat(" 900=2", 12)+" 200=3")
	for version := 7; version < 20; version++ {
		wantShared(t, s, 4, version, 3, api.OK)
		wantShared(t, s, 6, version, 4, api.OK)
		for later := version + 1; later < 20; later++ {
			wantShared(t, s, version, later, 4, api.OK)
		}
	}
	for version, want := range []int{0, 0, 0, 1, 2, 2, 3, 3, 3, 3, 3, 3, 3, 3, 3, 3, 3, 3, 3, 5, 7} {
		wantShared(t, s, 20, version, want, api.OK)
	}
}
