package ranges

import (
	"testing"

	"platterhold/api"
)

// TestListOrder (16.1): by owner, then by place, in whatever order the locks were set.
func TestListOrder(t *testing.T) {
	want := "0:5+1 0:40+2! 1:3+1! 2:0+1 2:20+2 3:10+1! 3:63+1!"
	all := locks(want)
	for turn := range 7 {
		for _, by := range []int{1, 2, 3, 4, 5, 6} {
			table := New()
			for i := range 7 {
				wantStep(t, table, step{"Set", all[(turn+i*by)%7]}, api.OK)
			}
			wantTable(t, "List", table, want)
		}
	}
}

// TestListTouching (16.1): locks that touch and are alike are one; those that touch and are not, of others, or with a gap
// between, are not.
func TestListTouching(t *testing.T) {
	wantAll(t,
		change{"1:10+1 1:12+1", set("1:11+1"), "1:10+3"},
		change{"1:10+1 1:12+1!", set("1:11+1"), "1:10+2 1:12+1!"},
		change{"1:10+1! 1:12+1!", set("1:11+1"), "1:10+1! 1:11+1 1:12+1!"},
		change{"1:10+1! 1:13+1!", set("1:11+1!"), "1:10+2! 1:13+1!"},
		change{"1:10+1 2:11+1", set("1:12+1"), "1:10+1 1:12+1 2:11+1"},
		change{"1:10+1! 2:11+1!", set("3:12+1!"), "1:10+1! 2:11+1! 3:12+1!"},
		change{"0:63+1", set("1:0+1"), "0:63+1 1:0+1"},
		change{"0:63+1! 1:1+1!", set("1:0+1!"), "0:63+1! 1:0+2!"},
		change{"0:0+64 1:0+64 2:0+64", set("3:0+64"), "0:0+64 1:0+64 2:0+64 3:0+64"},
	)
}

// TestListOneByOne (16.1): places that are set one by one, from the front, from the end, and each second one first.
func TestListOneByOne(t *testing.T) {
	front, end, second := New(), New(), New()
	for i := range 48 {
		wantStep(t, front, step{"Set", api.Lock{Owner: 1, From: i, Size: 1}}, api.OK)
		wantStep(t, end, step{"Set", api.Lock{Owner: 1, From: 47 - i, Size: 1}}, api.OK)
		wantStep(t, second, step{"Set", api.Lock{Owner: 1, From: i*2%48 + i/24, Size: 1}}, api.OK)
	}
	for _, table := range []*Table{front, end, second} {
		wantTable(t, "List", table, "1:0+48")
	}
}

// TestListIsTheCallers (16.1, P2): what List told may be changed, as far as its memory goes, and stays as it is.
func TestListIsTheCallers(t *testing.T) {
	for _, text := range someTables() {
		table := tableOf(t, text)
		first, second := table.List(), table.List()
		first = first[:cap(first)]
		for i := range first {
			first[i] = lock("3:1+62!")
		}
		wantTable(t, "what List told was changed", table, text)
		for owner := range 4 {
			wantStep(t, table, step{"Free", api.Lock{Owner: owner, Size: 64}}, api.OK)
		}
		wantStep(t, table, set("2:30+30!"), api.OK)
		if got := textOfAll(second); got != text {
			t.Errorf("what List told was %q, and is %q", text, got)
		}
	}
}

// TestListTwice (16.1, P2): to ask changes nothing, also for what is no lock.
func TestListTwice(t *testing.T) {
	for _, text := range someTables() {
		table := tableOf(t, text)
		for owner := range 4 {
			table.Test(api.Lock{Owner: owner, Size: 64, Alone: true})
			table.Test(api.Lock{Owner: owner, From: 1, Size: 64})
			wantTable(t, "List", table, text)
		}
	}
}
