package ranges

import "testing"

// wantFrees does each of some steps, once as the lock is told, and once with Alone as it is not told.
func wantFrees(t *testing.T, all ...change) {
	t.Helper()
	for _, one := range all {
		wantAll(t, one)
		one.l.Alone = !one.l.Alone
		wantAll(t, one)
	}
}

// TestFree (16.1): some of the owner's places, all of them, and those in the middle of a lock; Alone does not count.
func TestFree(t *testing.T) {
	for _, kind := range []string{"", "!"} {
		was := "1:10+10" + kind
		wantFrees(t,
			change{was, give("1:10+10"), ""},
			change{was, give("1:0+64"), ""},
			change{was, give("1:9+12"), ""},
			change{was, give("1:10+1"), "1:11+9" + kind},
			change{was, give("1:0+15"), "1:15+5" + kind},
			change{was, give("1:19+1"), "1:10+9" + kind},
			change{was, give("1:15+49"), "1:10+5" + kind},
			change{was, give("1:11+8"), "1:10+1" + kind + " 1:19+1" + kind},
			change{was, give("1:14+1"), "1:10+4" + kind + " 1:15+5" + kind},
			change{was, give("1:0+10"), was},
			change{was, give("1:20+44"), was},
			change{was, give("1:63+1"), was},
		)
	}
}

// TestFreeOthers (16.1): places that nobody has, and those of others, stay as they are.
func TestFreeOthers(t *testing.T) {
	wantFrees(t,
		change{"", give("0:0+64"), ""},
		change{"0:10+5", give("1:10+5"), "0:10+5"},
		change{"0:10+5!", give("1:0+64"), "0:10+5!"},
		change{"0:10+5 1:10+5 2:10+5", give("1:10+5"), "0:10+5 2:10+5"},
		change{"0:10+5 1:10+5 2:10+5", give("3:10+5"), "0:10+5 1:10+5 2:10+5"},
		change{"0:10+5 1:12+5", give("1:10+5"), "0:10+5 1:15+2"},
		change{"0:10+5! 1:15+5! 2:20+5!", give("1:0+64"), "0:10+5! 2:20+5!"},
		change{"0:10+5! 1:15+5! 2:20+5!", give("1:19+2"), "0:10+5! 1:15+4! 2:20+5!"},
	)
}

// TestFreeSeveral (16.1): over several locks of the owner, with gaps and without.
func TestFreeSeveral(t *testing.T) {
	wantFrees(t,
		change{"1:10+5 1:15+5!", give("1:14+2"), "1:10+4 1:16+4!"},
		change{"1:10+5 1:15+5!", give("1:15+5"), "1:10+5"},
		change{"1:10+5 1:15+5!", give("1:10+5"), "1:15+5!"},
		change{"1:10+5! 1:15+5 1:20+5!", give("1:15+5"), "1:10+5! 1:20+5!"},
		change{"1:10+5! 1:15+5 1:20+5!", give("1:14+7"), "1:10+4! 1:21+4!"},
		change{"1:10+5! 1:15+5 1:20+5!", give("1:12+10"), "1:10+2! 1:22+3!"},
		change{"1:10+2 1:20+2! 1:30+2 1:40+2!", give("1:11+30"), "1:10+1 1:41+1!"},
		change{"1:10+2 1:20+2! 1:30+2 1:40+2!", give("1:0+64"), ""},
		change{"1:10+2 1:20+2! 1:30+2 1:40+2!", give("1:12+28"), "1:10+2 1:40+2!"},
	)
}
