package ranges

import (
	"slices"
	"testing"

	"platterhold/api"
)

// wantFull does steps that would make List too long.
func wantFull(t *testing.T, was string, steps ...step) {
	t.Helper()
	table := tableOf(t, was)
	told := answers(table)
	for _, s := range steps {
		wantStep(t, table, s, api.ErrFull)
		wantTable(t, s, table, was)
	}
	if now := answers(table); !slices.Equal(now, told) {
		t.Errorf("%s: Test tells something else behind ErrFull", was)
	}
}

// TestFullSet (16.1): just as many locks as may be, and one more, or two, by Set.
func TestFullSet(t *testing.T) {
	wantFull(t, row(1, 0, 24), set("1:48+1"), set("1:1+1!"), set("0:0+1"), set("3:63+1!"), set("2:0+64"), set("1:47+17!"))
	wantFull(t, striped(2, 24), set("2:25+1!"), set("2:24+1"), set("2:24+40"), set("0:24+1!"))
	wantFull(t, row(0, 0, 23)+" 0:50+9", set("0:52+1!"), set("0:50+1!"), set("0:58+1!"), set("0:48+1"), set("0:60+1"), set("1:50+9"))
	wantFull(t, row(0, 0, 22)+" 0:50+9!", set("0:52+1"), set("0:51+7"))
	wantFull(t, row(0, 0, 6)+" "+row(1, 3, 6)+" "+row(2, 6, 6)+" "+row(3, 9, 6), set("0:12+1"), set("1:1+1"), set("3:30+1!"))
}

// TestFullFree (16.1): one more lock by Free, of the middle of one.
func TestFullFree(t *testing.T) {
	wantFull(t, row(0, 0, 23)+" 0:50+9", give("0:51+1"), give("0:51+7!"), give("0:57+1"))
	wantFull(t, "0:0+3 "+row(0, 4, 23), give("0:1+1"))
	wantFull(t, "0:0+64 "+row(1, 0, 23), give("0:1+62"), give("0:40+1!"))
	wantFull(t, row(1, 0, 23)+" 3:50+3!", give("3:51+1"), give("3:51+1!"))
}

// TestFullStill (16.1): at as many locks as may be, steps that leave List as long, or make it shorter.
func TestFullStill(t *testing.T) {
	full := row(0, 0, 23) + " 0:50+9"
	start := row(0, 0, 23)
	wantAll(t,
		change{full, set("0:50+9"), full},
		change{full, set("0:50+9!"), start + " 0:50+9!"},
		change{full, set("0:52+1"), full},
		change{full, set("0:59+5"), start + " 0:50+14"},
		change{full, set("0:49+15!"), start + " 0:49+15!"},
		change{full, give("0:50+1"), start + " 0:51+8"},
		change{full, give("0:58+6"), start + " 0:50+8"},
		change{full, give("0:50+9"), start},
		change{full, give("0:46+3"), full},
		change{full, give("1:50+9"), full},
		change{full, set("0:45+5"), row(0, 0, 22) + " 0:44+15"},
		change{full, set("0:0+60"), "0:0+60"},
		change{full, set("0:40+10!"), row(0, 0, 20) + " 0:40+10! 0:50+9"},
		change{full, set("0:43+4"), row(0, 0, 21) + " 0:42+5 0:50+9"},
		change{full, set("0:42+3!"), row(0, 0, 21) + " 0:42+3! 0:50+9"},
		change{full, give("0:0+3"), row(0, 4, 21) + " 0:50+9"},
	)
}

// TestFullJust (16.1): steps that make List just as long as may be.
func TestFullJust(t *testing.T) {
	start := row(0, 0, 22)
	wantAll(t,
		change{start + " 0:50+9", set("0:48+1"), start + " 0:48+1 0:50+9"},
		change{start + " 0:50+9", set("0:50+1!"), start + " 0:50+1! 0:51+8"},
		change{start + " 0:50+9", give("0:51+7"), start + " 0:50+1 0:58+1"},
		change{start + " 0:50+9", set("3:1+60"), start + " 0:50+9 3:1+60"},
		change{row(0, 0, 21) + " 0:50+9", set("0:52+1!"), row(0, 0, 21) + " 0:50+2 0:52+1! 0:53+6"},
		change{row(0, 0, 23), set("0:51+3!"), row(0, 0, 23) + " 0:51+3!"},
		change{row(1, 0, 23), set("2:3+1"), row(1, 0, 23) + " 2:3+1"},
	)
}

// TestFullAgain (16.1): what was too much comes off when there is room.
func TestFullAgain(t *testing.T) {
	table := tableOf(t, row(1, 0, 24))
	wantStep(t, table, set("2:63+1!"), api.ErrFull)
	wantStep(t, table, give("1:10+1"), api.OK)
	wantStep(t, table, set("2:63+1!"), api.OK)
	wantStep(t, table, set("2:61+1!"), api.ErrFull)
	wantStep(t, table, set("2:62+1!"), api.OK)
	wantStep(t, table, set("1:4+5"), api.OK)
	wantStep(t, table, set("2:60+1!"), api.OK)
	wantTable(t, "room", table, row(1, 0, 2)+" 1:4+5 "+row(1, 12, 18)+" 2:60+1! 2:62+2!")
}

// TestFullClash (16.1, P3): a lock that somebody stands against, and for which List would be too long, clashes; what is no
// lock is ErrRange ahead of both.
func TestFullClash(t *testing.T) {
	table := tableOf(t, row(1, 0, 24))
	wantStep(t, table, set("2:0+1!"), api.ErrClash)
	wantStep(t, table, set("2:1+2!"), api.ErrClash)
	wantStep(t, table, set("2:46+18!"), api.ErrClash)
	wantStep(t, table, set("2:1+1!"), api.ErrFull)
	wantStep(t, table, set("2:46+18"), api.ErrFull)
	wantStep(t, table, set("2:46+19!"), api.ErrRange)
	wantStep(t, table, set("4:46+1!"), api.ErrRange)
	wantStep(t, table, set("2:64+1!"), api.ErrRange)
	wantStep(t, table, set("2:46+0!"), api.ErrRange)
	full := tableOf(t, row(0, 0, 23)+" 0:50+9")
	wantStep(t, full, give("0:51+14"), api.ErrRange)
	wantStep(t, full, give("0:51+0"), api.ErrRange)
	wantStep(t, full, give("0:51+7"), api.ErrFull)
}
