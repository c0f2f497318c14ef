package cow

import (
	"fmt"
	"maps"
	"slices"
	"strings"
	"testing"

	"platterhold/api"
)

// TestPutNew (20.1): a key that is new, in an empty tree, on the left and on the right, once and again: its node is below the
// last one on the way to it, and the nodes on that way are new.
func TestPutNew(t *testing.T) {
	wantPlays(t,
		play{"5=7", []string{"5=7 (1)"}},
		play{"0=0", []string{"0=0 (1)"}},
		play{"1000=1000", []string{"1000=1000 (1)"}},
		play{"5=7 3=1", []string{"5=7 (1)", "3=1 5=7 (0 2)"}},
		play{"5=7 8=1", []string{"5=7 (1)", "5=7 8=1 (0 2)"}},
		play{"5=7 0=1 1000=2", []string{"5=7 (1)", "0=1 5=7 (0 2)", "0=1 5=7 1000=2 (0 1 3)"}},
		play{"5=7 4=1 6=2", []string{"5=7 (1)", "4=1 5=7 (0 2)", "4=1 5=7 6=2 (0 1 3)"}},
		play{"5=7 3=1 4=2", []string{"5=7 (1)", "3=1 5=7 (0 2)", "3=1 4=2 5=7 (0 0 3)"}},
		play{"5=7 8=1 6=2", []string{"5=7 (1)", "5=7 8=1 (0 2)", "5=7 6=2 8=1 (0 0 3)"}},
		play{"5=7 3=1 8=2 4=3 6=4", []string{
			"5=7 (1)", "3=1 5=7 (0 2)", "3=1 5=7 8=2 (0 1 3)", "3=1 4=3 5=7 8=2 (0 0 1 4)", "3=1 4=3 5=7 6=4 8=2 (0 0 0 2 5)",
		}},
	)
}

// TestPutEach (20.1): each key and each value that may be.
func TestPutEach(t *testing.T) {
	for number := range 1001 {
		s := New()
		wantPut(t, s, step{0, number, 5}, fmt.Sprintf("%d=5 (1)", number))
		wantPut(t, s, step{0, 5, number}, fmt.Sprintf("5=%d (0 1)", number))
		wantPut(t, s, step{1, number, number}, fmt.Sprintf("%d=%d (0 0 1)", number, number))
	}
}

// even are Puts behind which each node that is not a leaf has one on the left and one on the right.
const even = "5=5 2=2 8=8 1=1 3=3 7=7 9=9"

// evenVersions are the versions behind these.
func evenVersions() []string {
	return []string{
		"5=5 (1)",
		"2=2 5=5 (0 2)",
		"2=2 5=5 8=8 (0 1 3)",
		"1=1 2=2 5=5 8=8 (0 0 1 4)",
		"1=1 2=2 3=3 5=5 8=8 (0 0 1 2 5)",
		"1=1 2=2 3=3 5=5 7=7 8=8 (0 0 0 1 3 6)",
		"1=1 2=2 3=3 5=5 7=7 8=8 9=9 (0 0 0 1 3 4 7)",
	}
}

// TestPutEven (20.1): a tree with nodes on both sides of each other one, in which a key is put that is there (at the root,
// between, at a leaf; with another value and with the one that it has), or one that is new below each leaf: the nodes on the
// way to it are new, all others are older ones.
func TestPutEven(t *testing.T) {
	wantPlays(t, play{even, evenVersions()})
	for _, one := range []struct {
		key    int
		shares string
	}{
		{5, "(0 0 0 1 3 4 6 7)"},
		{2, "(0 0 0 1 2 3 5 7)"},
		{8, "(0 0 0 1 3 4 5 7)"},
		{1, "(0 0 0 0 1 2 4 7)"},
		{3, "(0 0 0 1 1 2 4 7)"},
		{7, "(0 0 0 1 3 3 4 7)"},
		{9, "(0 0 0 1 3 4 4 7)"},
		{0, "(0 0 0 0 1 2 4 8)"},
		{4, "(0 0 0 1 1 2 4 8)"},
		{6, "(0 0 0 1 3 3 4 8)"},
		{10, "(0 0 0 1 3 4 4 8)"},
	} {
		for _, value := range []int{one.key, 0, 77, 1000} {
			put := step{7, one.key, value}
			wantPut(t, behind(t, even), put, textOf(append(stepsOf(even), put))+one.shares)
		}
	}
}

// TestPutSame (20.1): also the value that is there already makes a new version, with new nodes.
func TestPutSame(t *testing.T) {
	wantPlays(t,
		play{"5=7 5=7", []string{"5=7 (1)", "5=7 (0 1)"}},
		play{"5=7 5=7 5=7", []string{"5=7 (1)", "5=7 (0 1)", "5=7 (0 0 1)"}},
		play{"5=0 5=0 1:5=0", []string{"5=0 (1)", "5=0 (0 1)", "5=0 (0 0 1)"}},
		play{"5=7 3=1 5=7 3=1", []string{"5=7 (1)", "3=1 5=7 (0 2)", "3=1 5=7 (0 1 2)", "3=1 5=7 (0 0 0 2)"}},
		play{"5=7 3=1 2:5=7 2:3=1", []string{"5=7 (1)", "3=1 5=7 (0 2)", "3=1 5=7 (0 1 2)", "3=1 5=7 (0 0 0 2)"}},
	)
}

// TestPutOlder (20.1): into a version that is not the last one, which stays as it is, and so do all that were made of it.
func TestPutOlder(t *testing.T) {
	wantPlays(t,
		play{"5=1 0:5=2 0:5=3", []string{"5=1 (1)", "5=2 (0 1)", "5=3 (0 0 1)"}},
		play{"5=1 3=2 1:3=4 1:8=6", []string{"5=1 (1)", "3=2 5=1 (0 2)", "3=4 5=1 (0 0 2)", "5=1 8=6 (0 0 0 2)"}},
		play{"5=1 3=2 8=3 2:8=4 2:5=5", []string{
			"5=1 (1)", "3=2 5=1 (0 2)", "3=2 5=1 8=3 (0 1 3)", "3=2 5=1 8=4 (0 1 1 3)", "3=2 5=5 (0 1 1 1 2)",
		}},
		play{"5=1 3=2 0:3=2 5=1 2:4=9 4:4=9", []string{
			"5=1 (1)", "3=2 5=1 (0 2)", "3=2 (0 0 1)", "3=2 5=1 (0 0 0 2)", "3=2 4=9 5=1 (0 0 0 0 3)", "3=2 4=9 5=1 (0 0 0 0 0 3)",
		}},
	)
}

// rows are keys in orders by which trees are one long way: to the right, to the left, and to and fro.
func rows() [][]int {
	var rising, falling, to, fro []int
	for i := range 20 {
		rising = append(rising, 10*i)
		falling = append(falling, 1000-10*i)
		away := (1 - i%2*2) * (500 - 25*i)
		to = append(to, 500+away)
		fro = append(fro, 500-away)
	}
	return [][]int{rising, falling, to, fro}
}

// TestPutRow (20.1): of a tree that is one long way a Put at its end has no old node; one within it has those below alone.
func TestPutRow(t *testing.T) {
	for _, keys := range rows() {
		puts := stepsOf(rowOf(keys...))
		s := New()
		for i, one := range puts {
			wantPut(t, s, one, textOf(puts[:i+1])+sharesOf(i+1, 0, i+1))
		}
		for i, key := range keys[:19] {
			put := step{19, key, 555}
			wantPut(t, behind(t, rowOf(keys[:19]...)), put, textOf(append(slices.Clone(puts[:19]), put))+sharesOf(20, 18-i, 19))
		}
	}
}

// textOf is the beginning of the text of a version to which some Puts lead, each into the version that the one ahead makes.
func textOf(puts []step) string {
	values := map[int]int{}
	for _, one := range puts {
		values[one.key] = one.value
	}
	text := ""
	for _, key := range slices.Sorted(maps.Keys(values)) {
		text += fmt.Sprint(key, "=", values[key], " ")
	}
	return text
}

// sharesOf is the end of a version's text, of which it has nothing with others but so much with the one ahead of it.
func sharesOf(version, ahead, itself int) string {
	texts := slices.Repeat([]string{"0"}, version)
	if version > 1 {
		texts[version-2] = fmt.Sprint(ahead)
	}
	texts[version-1] = fmt.Sprint(itself)
	return "(" + strings.Join(texts, " ") + ")"
}

// TestPutNumbers (20.1): versions are numbered one behind the other, whichever one is put into.
func TestPutNumbers(t *testing.T) {
	for _, into := range []func(last int) int{
		func(last int) int { return last },
		func(last int) int { return 0 },
		func(last int) int { return last / 2 },
		func(last int) int { return max(last-1, 0) },
		func(last int) int { return last * 7 % (last + 1) },
	} {
		s := New()
		for last := range 20 {
			for _, version := range noVersions(last) {
				wantFruitless(t, s, step{version, 5, 5}, api.ErrRange)
			}
			made, err := s.Put(into(last), last*37%11, last)
			wantError(t, last, err, api.OK)
			if made != last+1 {
				t.Errorf("behind version %d: got %d", last, made)
			}
			wantSound(t, made, s)
		}
		wantFruitless(t, s, step{into(20), 5, 5}, api.ErrFull)
	}
}

// TestPutNoVersion (20.1, P1): what is no version is ErrRange, with keys and values that may be, and that may not.
func TestPutNoVersion(t *testing.T) {
	for _, text := range []string{"", "5=7", mixedUp, full} {
		s := behind(t, text)
		for _, version := range noVersions(lastOf(s)) {
			for _, other := range []int{0, 5, 1000, -1, 1001, version} {
				wantFruitless(t, s, step{version, other, 5}, api.ErrRange)
				wantFruitless(t, s, step{version, 5, other}, api.ErrRange)
				wantFruitless(t, s, step{version, other, other}, api.ErrRange)
			}
		}
	}
}

// TestPutNoKey (20.1, P1): what can't be a key, or a value, is ErrRange, in each version; also where no more versions could be.
func TestPutNoKey(t *testing.T) {
	for _, text := range []string{"", "5=7", mixedUp, full} {
		s := behind(t, text)
		for version := range lastOf(s) + 1 {
			for _, bad := range noValues() {
				wantFruitless(t, s, step{version, bad, 5}, api.ErrRange)
				wantFruitless(t, s, step{version, 500, bad}, api.ErrRange)
				wantFruitless(t, s, step{version, 700, bad}, api.ErrRange)
				wantFruitless(t, s, step{version, bad, bad}, api.ErrRange)
			}
		}
	}
}

// TestPutAllWrong (20.1, P1): several of them, or all, are wrong at once.
func TestPutAllWrong(t *testing.T) {
	for _, text := range []string{"", mixedUp, full} {
		s := behind(t, text)
		for _, version := range noVersions(lastOf(s)) {
			for _, bad := range noValues() {
				for _, one := range []step{{version, bad, 5}, {version, 5, bad}, {version, bad, bad}, {version, bad, version}} {
					if made, err := one.on(s); made != 0 || err != api.ErrRange {
						t.Errorf("%v: got %d, %v", one, made, err)
					}
				}
			}
		}
		wantState(t, text, s, stateOf(behind(t, text)))
	}
}

// TestPutFull (20.1): twenty versions beside version 0, and no more, whichever one is put into, also where the key is there.
func TestPutFull(t *testing.T) {
	star := strings.Repeat("0:5=7 ", 20)
	for _, text := range []string{full, star, rowOf(rows()[0]...), rowOf(rows()[2]...), strings.Repeat("5=7 ", 20)} {
		s := behind(t, text)
		if last := lastOf(s); last != 20 {
			t.Errorf("%s: %d versions", text, last)
		}
		for version := range 21 {
			for _, key := range []int{0, 5, 500, 501, 1000} {
				for _, value := range []int{0, 7, 1000} {
					wantFruitless(t, s, step{version, key, value}, api.ErrFull)
				}
			}
		}
		for _, version := range []int{-1, 21, 22} {
			wantFruitless(t, s, step{version, 5, 5}, api.ErrRange)
		}
	}
	s := behind(t, strings.Repeat("0:5=7 ", 19))
	wantPut(t, s, step{19, 6, 1}, "5=7 6=1 "+sharesOf(20, 0, 2))
	wantFruitless(t, s, step{20, 7, 1}, api.ErrFull)
	wantFruitless(t, s, step{20, 6, 1}, api.ErrFull)
}

// TestPutFruitless (20.1, P1): behind an error the same can become of the store.
func TestPutFruitless(t *testing.T) {
	for _, text := range []string{"", "5=7", even, mixedUp, full} {
		made := func() *Store { return behind(t, text) }
		last, want := lastOf(made()), fates(made)
		bad := []step{
			{-1, 5, 5}, {last + 1, 5, 5}, {last + 1, 500, 77}, {last + 2, 5, 5}, {21, 5, 5}, {1 << 32, 5, 5}, {last, -1, 5},
			{last, 1001, 5}, {last, 1 << 32, 5}, {last, 5, -1}, {last, 500, 1001}, {last, 700, 1 << 32}, {0, -1, -1}, {-1, -1, -1},
			{last / 2, 500, -1}, {last / 2, 1001, 1001},
		}
		if text == full {
			bad = append(bad, step{0, 500, 77}, step{last, 500, 77}, step{last, 501, 77}, step{last / 2, 500, 77}, step{9, 500, 1})
		}
		for _, one := range bad {
			wantFates(t, one, func() *Store {
				s := made()
				if n, err := one.on(s); n != 0 || err == nil {
					t.Fatalf("%s: %v told %d, %v", text, one, n, err)
				}
				return s
			}, want)
		}
	}
}
