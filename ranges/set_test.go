package ranges

import (
	"fmt"
	"testing"

	"platterhold/api"
)

// TestSetFree (16.1): places that nobody has, beside the owner's own ones, and far from them.
func TestSetFree(t *testing.T) {
	wantAll(t,
		change{"", set("2:7+9!"), "2:7+9!"},
		change{"", set("0:0+64"), "0:0+64"},
		change{"1:10+5", set("1:20+5"), "1:10+5 1:20+5"},
		change{"1:10+5", set("1:0+5"), "1:0+5 1:10+5"},
		change{"1:10+5", set("1:15+5"), "1:10+10"},
		change{"1:10+5", set("1:5+5"), "1:5+10"},
		change{"1:10+5", set("1:16+5"), "1:10+5 1:16+5"},
		change{"1:10+5", set("1:4+5"), "1:4+5 1:10+5"},
		change{"1:10+5", set("1:15+5!"), "1:10+5 1:15+5!"},
		change{"1:10+5!", set("1:15+5!"), "1:10+10!"},
		change{"1:10+5!", set("1:5+5"), "1:5+5 1:10+5!"},
		change{"1:10+5 1:20+5", set("1:15+5"), "1:10+15"},
		change{"1:10+5! 1:20+5!", set("1:15+5!"), "1:10+15!"},
		change{"1:10+5! 1:20+5", set("1:15+5!"), "1:10+10! 1:20+5"},
		change{"1:10+5! 1:20+5", set("1:15+5"), "1:10+5! 1:15+10"},
	)
}

// TestSetOverOwn (16.1): over the owner's own places, in part and whole, at the front, in the middle and at the end:
// one lock that becomes two, three or one.
func TestSetOverOwn(t *testing.T) {
	for _, kinds := range [][2]string{{"", "!"}, {"!", ""}} {
		old, other := kinds[0], kinds[1]
		was := "1:10+10" + old
		wantAll(t,
			change{was, set("1:10+10" + other), "1:10+10" + other},
			change{was, set("1:10+3" + other), "1:10+3" + other + " 1:13+7" + old},
			change{was, set("1:17+3" + other), "1:10+7" + old + " 1:17+3" + other},
			change{was, set("1:14+2" + other), "1:10+4" + old + " 1:14+2" + other + " 1:16+4" + old},
			change{was, set("1:10+1" + other), "1:10+1" + other + " 1:11+9" + old},
			change{was, set("1:19+1" + other), "1:10+9" + old + " 1:19+1" + other},
			change{was, set("1:11+8" + other), "1:10+1" + old + " 1:11+8" + other + " 1:19+1" + old},
			change{was, set("1:5+10" + other), "1:5+10" + other + " 1:15+5" + old},
			change{was, set("1:15+10" + other), "1:10+5" + old + " 1:15+10" + other},
			change{was, set("1:5+20" + other), "1:5+20" + other},
			change{was, set("1:0+64" + other), "1:0+64" + other},
		)
	}
}

// TestSetLikeOwn (16.1): the same lock twice, a part of it, and one that goes beyond it, are one lock.
func TestSetLikeOwn(t *testing.T) {
	for _, kind := range []string{"", "!"} {
		was := "1:10+10" + kind
		wantAll(t,
			change{was, set("1:10+10" + kind), was},
			change{was, set("1:10+1" + kind), was},
			change{was, set("1:12+5" + kind), was},
			change{was, set("1:19+1" + kind), was},
			change{was, set("1:5+10" + kind), "1:5+15" + kind},
			change{was, set("1:15+10" + kind), "1:10+15" + kind},
			change{was, set("1:5+20" + kind), "1:5+20" + kind},
			change{was, set("1:20+44" + kind), "1:10+54" + kind},
		)
	}
}

// TestSetOverSeveral (16.1): two and three locks that become one, or others.
func TestSetOverSeveral(t *testing.T) {
	wantAll(t,
		change{"1:10+5 1:15+5!", set("1:15+5"), "1:10+10"},
		change{"1:10+5 1:15+5!", set("1:10+5!"), "1:10+10!"},
		change{"1:10+5 1:15+5! 1:20+5", set("1:15+5"), "1:10+15"},
		change{"1:10+5! 1:15+5 1:20+5!", set("1:15+5!"), "1:10+15!"},
		change{"1:10+5! 1:15+5 1:20+5!", set("1:12+10"), "1:10+2! 1:12+10 1:22+3!"},
		change{"1:10+5! 1:15+5 1:20+5!", set("1:10+15!"), "1:10+15!"},
		change{"1:10+5! 1:15+5 1:20+5!", set("1:9+17"), "1:9+17"},
		change{"1:10+5 1:15+5! 1:20+5", set("1:14+7"), "1:10+15"},
		change{"1:10+5 1:15+5! 1:20+5", set("1:16+3"), "1:10+5 1:15+1! 1:16+3 1:19+1! 1:20+5"},
		change{"1:10+2 1:20+2! 1:30+2 1:40+2!", set("1:21+20!"), "1:10+2 1:20+22!"},
		change{"1:10+2 1:20+2! 1:30+2 1:40+2!", set("1:11+30"), "1:10+31 1:41+1!"},
	)
}

// TestSetBesideOthers (16.1): what others have stays, also at the same places.
func TestSetBesideOthers(t *testing.T) {
	wantAll(t,
		change{"0:10+5 2:10+5", set("1:10+5"), "0:10+5 1:10+5 2:10+5"},
		change{"0:10+5 2:10+5", set("1:12+9"), "0:10+5 1:12+9 2:10+5"},
		change{"0:10+5 2:10+5", set("1:15+9!"), "0:10+5 1:15+9! 2:10+5"},
		change{"0:10+5! 2:15+5!", set("1:0+10"), "0:10+5! 1:0+10 2:15+5!"},
		change{"0:10+5 1:10+5", set("1:10+3"), "0:10+5 1:10+5"},
		change{"0:10+5 1:10+10", set("1:15+5!"), "0:10+5 1:10+5 1:15+5!"},
		change{"0:10+5 1:15+5!", set("1:10+10"), "0:10+5 1:10+10"},
	)
}

// TestSetClash (16.1, P1): a lock that somebody stands against, behind which all is as it was, also where just one place
// of it can't be had, and where the owner has others there.
func TestSetClash(t *testing.T) {
	for _, one := range []struct{ was, l string }{
		{"0:10+5", "1:10+5!"},
		{"0:10+5!", "1:10+5"},
		{"0:10+5!", "1:10+5!"},
		{"0:10+5", "1:0+11!"},
		{"0:10+5", "1:14+50!"},
		{"0:10+5!", "1:0+64"},
		{"0:10+5 1:10+5", "1:12+1!"},
		{"0:10+5 1:10+5", "0:12+1!"},
		{"0:14+1 1:10+5", "1:10+5!"},
		{"0:10+1 1:11+9! 2:20+1", "1:10+11!"},
		{"0:10+1 1:11+9! 2:20+1", "1:11+10!"},
		{"0:10+1! 1:11+9! 2:20+1!", "1:10+10"},
		{"0:0+64 1:0+64 2:0+64", "3:63+1!"},
	} {
		table := tableOf(t, one.was)
		was := answers(table)
		wantStep(t, table, set(one.l), api.ErrClash)
		wantTable(t, one.l, table, one.was)
		if now := answers(table); fmt.Sprint(now) != fmt.Sprint(was) {
			t.Errorf("Set %s behind %s: Test tells something else", one.l, one.was)
		}
	}
}

// TestSetAgain (16.1): what clashed comes off when it is asked for as it may be, or when the other one's lock is gone.
func TestSetAgain(t *testing.T) {
	table := tableOf(t, "0:10+5 1:12+5")
	wantStep(t, table, set("1:12+5!"), api.ErrClash)
	wantStep(t, table, set("1:15+2!"), api.OK)
	wantTable(t, "a part of it", table, "0:10+5 1:12+3 1:15+2!")
	wantStep(t, table, give("0:12+3"), api.OK)
	wantStep(t, table, set("1:12+5!"), api.OK)
	wantTable(t, "the whole", table, "0:10+2 1:12+5!")
	wantStep(t, table, set("0:11+2"), api.ErrClash)
	wantStep(t, table, set("1:12+5"), api.OK)
	wantStep(t, table, set("0:11+2"), api.OK)
	wantTable(t, "shared", table, "0:10+3 1:12+5")
}
