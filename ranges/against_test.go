package ranges

import (
	"testing"

	"platterhold/api"
)

// tested is a lock that is tested at a table of some locks, and the owner that is told.
type tested struct {
	was, l string
	want   int
}

// wantTests tests each of some locks, and asks for ErrClash where it is set.
func wantTests(t *testing.T, all ...tested) {
	t.Helper()
	for _, one := range all {
		table := tableOf(t, one.was)
		wantTest(t, table, lock(one.l), one.want, api.OK)
		wantTable(t, "Test "+one.l, table, one.was)
		if one.want >= 0 {
			wantStep(t, table, set(one.l), api.ErrClash)
		} else {
			wantStep(t, table, set(one.l), api.OK)
		}
	}
}

// TestAgainst (16.1): shared and alone, of the same owner and of others.
func TestAgainst(t *testing.T) {
	wantTests(t,
		tested{"", "0:5+3", -1},
		tested{"", "3:0+64!", -1},
		tested{"0:5+3", "1:5+3", -1},
		tested{"0:5+3", "1:5+3!", 0},
		tested{"0:5+3!", "1:5+3", 0},
		tested{"0:5+3!", "1:5+3!", 0},
		tested{"0:5+3", "0:5+3", -1},
		tested{"0:5+3", "0:5+3!", -1},
		tested{"0:5+3!", "0:5+3", -1},
		tested{"0:5+3!", "0:5+3!", -1},
		tested{"3:5+3!", "0:5+3", 3},
		tested{"3:5+3", "2:5+3!", 3},
	)
}

// TestAgainstWhere (16.1): locks that touch, that meet at one place, that lie within, and that lie around.
func TestAgainstWhere(t *testing.T) {
	wantTests(t,
		tested{"2:20+10!", "1:10+10!", -1},
		tested{"2:20+10!", "1:30+10!", -1},
		tested{"2:20+10!", "1:0+20", -1},
		tested{"2:20+10!", "1:30+34", -1},
		tested{"2:20+10!", "1:10+11", 2},
		tested{"2:20+10!", "1:29+10", 2},
		tested{"2:20+10!", "1:20+1", 2},
		tested{"2:20+10!", "1:29+1", 2},
		tested{"2:20+10!", "1:24+2", 2},
		tested{"2:20+10!", "1:20+10", 2},
		tested{"2:20+10!", "1:19+12", 2},
		tested{"2:20+10!", "1:0+64", 2},
		tested{"2:0+1!", "1:0+1", 2},
		tested{"2:0+1!", "1:1+63", -1},
		tested{"2:63+1!", "1:63+1", 2},
		tested{"2:63+1!", "1:0+63", -1},
	)
}

// TestAgainstLeast (16.1): of several owners the least one is told, wherever their places are.
func TestAgainstLeast(t *testing.T) {
	wantTests(t,
		tested{"0:20+2! 1:10+2! 2:0+2!", "3:0+64", 0},
		tested{"0:0+2! 1:10+2! 2:20+2!", "3:0+64", 0},
		tested{"0:20+2! 1:10+2! 2:0+2!", "3:0+15", 1},
		tested{"0:20+2! 1:10+2! 2:0+2!", "3:0+10", 2},
		tested{"0:20+2! 1:10+2! 2:0+2!", "3:11+10", 0},
		tested{"0:0+5 1:0+5 2:0+5", "3:4+1!", 0},
		tested{"1:0+5 2:0+5 3:0+5", "0:4+1!", 1},
		tested{"0:0+5 2:0+5 3:0+5", "0:4+1!", 2},
		tested{"0:0+5 1:0+5 3:0+5", "0:4+1!", 1},
		tested{"0:0+5 3:0+5", "0:4+1!", 3},
		tested{"1:30+1! 3:0+1!", "2:0+31", 1},
		tested{"1:0+1! 1:30+1! 3:1+1", "2:29+2", 1},
	)
}

// TestAgainstJustOne (16.1): a shared owner and one that is alone, of whom one alone stands against it, and an owner who
// has places of both kinds.
func TestAgainstJustOne(t *testing.T) {
	wantTests(t,
		tested{"0:10+10 1:20+10!", "2:0+64", 1},
		tested{"0:10+10 1:20+10!", "2:0+20", -1},
		tested{"0:10+10 1:20+10!", "2:0+64!", 0},
		tested{"0:10+10 1:20+10!", "2:20+5!", 1},
		tested{"0:10+10! 1:20+10", "2:0+64", 0},
		tested{"0:10+10! 1:20+10", "2:20+44", -1},
		tested{"0:10+10! 1:20+10", "2:20+44!", 1},
		tested{"0:10+10! 1:20+10", "1:19+2", 0},
		tested{"0:10+10 0:20+10!", "1:10+10", -1},
		tested{"0:10+10 0:20+10!", "1:10+11", 0},
		tested{"0:10+10 0:20+10!", "0:0+64!", -1},
		tested{"0:10+10! 0:20+10", "3:20+10", -1},
		tested{"0:10+10! 0:20+10", "3:19+10", 0},
		tested{"1:10+1 2:10+1 3:10+1", "0:10+1", -1},
	)
}

// TestAgainstBehind (16.1): what was set over, or freed, stands against nothing any more.
func TestAgainstBehind(t *testing.T) {
	table := tableOf(t, "1:10+10!")
	wantTest(t, table, lock("2:10+10"), 1, api.OK)
	wantStep(t, table, set("1:10+4"), api.OK)
	wantTest(t, table, lock("2:10+4"), -1, api.OK)
	wantTest(t, table, lock("2:10+5"), 1, api.OK)
	wantTest(t, table, lock("2:10+4!"), 1, api.OK)
	wantStep(t, table, give("1:14+6"), api.OK)
	wantTest(t, table, lock("2:10+54"), -1, api.OK)
	wantTest(t, table, lock("2:14+50!"), -1, api.OK)
	wantTest(t, table, lock("2:13+1!"), 1, api.OK)
	wantStep(t, table, give("1:0+64"), api.OK)
	wantTest(t, table, lock("2:0+64!"), -1, api.OK)
}

// runsFrom are all runs of some places from a place on.
func runsFrom(first, many int) []api.Lock {
	var all []api.Lock
	for from := range many {
		for size := 1; size <= many-from; size++ {
			all = append(all, api.Lock{From: first + from, Size: size})
		}
	}
	return all
}

// TestAgainstPairs (16.1): two locks of a few places, at the beginning, in the middle and at the end, of all owners,
// shared and alone: whether one is told of the other one is counted place by place.
func TestAgainstPairs(t *testing.T) {
	for _, first := range []int{0, 30, 59} {
		runs := runsFrom(first, 5)
		for i := range len(runs) * 8 {
			has := runs[i/8]
			has.Owner, has.Alone = i%4, i%8 > 3
			table := New()
			wantStep(t, table, step{"Set", has}, api.OK)
			for j := range len(runs) * 8 {
				l := runs[j/8]
				l.Owner, l.Alone = j%4, j%8 > 3
				want := -1
				for place := l.From; place < l.From+l.Size; place++ {
					isThere := has.From <= place && place < has.From+has.Size
					if isThere && has.Owner != l.Owner && (has.Alone || l.Alone) {
						want = has.Owner
					}
				}
				wantTest(t, table, l, want, api.OK)
			}
		}
	}
}
