package mode

import (
	"fmt"
	"math"
	"strings"
	"testing"

	"platterhold/api"
	"platterhold/plain"
)

// threes are all that three bits can be, as they are shown.
func threes() [8]string {
	return [8]string{"---", "--x", "-w-", "-wx", "r--", "r-x", "rw-", "rwx"}
}

// threesOf are those of a mode, the owner's first: the digits of its number to the base of 8.
func threesOf(mode int) [3]string {
	var found [3]string
	for i, digit := range fmt.Sprintf("%03o", mode) {
		found[i] = threes()[digit-'0']
	}
	return found
}

// slowShow puts the threes together.
func slowShow(mode int) string {
	found := threesOf(mode)
	return found[0] + found[1] + found[2]
}

// slowRead looks for a text among all that can be shown.
func slowRead(s string) (int, api.Errno) {
	if len(s) != 9 {
		return 0, api.ErrShape
	}
	at := 0
	for i := range 3 {
		found := strings.Index("---\n--x\n-w-\n-wx\nr--\nr-x\nrw-\nrwx", s[3*i:3*i+3])
		if found%4 != 0 {
			return 0, api.ErrSyntax
		}
		at = at*8 + found/4
	}
	return at, api.OK
}

// slowMay asks letter by letter. It is asked of numbers alone that may be.
func slowMay(mode, owner, set, who, his, want int) bool {
	if who == 0 {
		return true
	}
	has := threesOf(mode)[2]
	if his == set {
		has = threesOf(mode)[1]
	}
	if who == owner {
		has = threesOf(mode)[0]
	}
	for _, letter := range strings.ReplaceAll(threes()[want], "-", "") {
		if !strings.ContainsRune(has, letter) {
			return false
		}
	}
	return true
}

// wantError asks for an error, for which nil alone stands for none.
func wantError(t *testing.T, what string, err error, want api.Errno) {
	t.Helper()
	if told := plain.Told(err); told != want {
		t.Errorf("%s: error %v, want %v", what, told, want)
	}
	if (err == nil) != (want == api.OK) {
		t.Errorf("%s: error is nil: %v, want %v", what, err == nil, want == api.OK)
	}
}

// asked are the six numbers of May, in their order.
type asked [6]int

// may asks May.
func (a asked) may() (bool, error) { return May(a[0], a[1], a[2], a[3], a[4], a[5]) }

// slow asks the second way.
func (a asked) slow() bool { return slowMay(a[0], a[1], a[2], a[3], a[4], a[5]) }

// wantMay asks for an answer, and no error.
func wantMay(t *testing.T, a asked, want bool) {
	t.Helper()
	if got, err := a.may(); got != want || err != nil {
		t.Errorf("May(%o, %v): %v, %v, want %v", a[0], a[1:], got, err, want)
	}
}

// wantMayNot asks for ErrRange, and for false beside it.
func wantMayNot(t *testing.T, a asked) {
	t.Helper()
	what := fmt.Sprintf("May(%v)", a)
	got, err := a.may()
	wantError(t, what, err, api.ErrRange)
	if got {
		t.Errorf("%s: true beside an error", what)
	}
}

// wantNew asks for a mode, and for an error.
func wantNew(t *testing.T, asked, mask, want int, no api.Errno) {
	t.Helper()
	what := fmt.Sprintf("New(%d, %d)", asked, mask)
	got, err := New(asked, mask)
	wantError(t, what, err, no)
	if got != want {
		t.Errorf("%s: %d, want %d", what, got, want)
	}
}

// wantShow asks for a text, and for an error.
func wantShow(t *testing.T, mode int, want string, no api.Errno) {
	t.Helper()
	what := fmt.Sprintf("Show(%d)", mode)
	got, err := Show(mode)
	wantError(t, what, err, no)
	if got != want {
		t.Errorf("%s: %q, want %q", what, got, want)
	}
}

// wantRead asks for a mode, and for an error.
func wantRead(t *testing.T, s string, want int, no api.Errno) {
	t.Helper()
	what := fmt.Sprintf("Read(%.20q), %d bytes", s, len(s))
	got, err := Read(s)
	wantError(t, what, err, no)
	if got != want {
		t.Errorf("%s: %d, want %d", what, got, want)
	}
}

// TestNumbers (P3): the other tests write these numbers out.
func TestNumbers(t *testing.T) {
	if api.MaxMode != 511 || api.MaxWho != 9 {
		t.Errorf("a mode is at most %d, and one who may something %d", api.MaxMode, api.MaxWho)
	}
}

// TestMayByHand (12.1): written out.
func TestMayByHand(t *testing.T) {
	for _, c := range []struct {
		asked asked
		want  bool
	}{
		{asked{0o640, 1, 2, 1, 3, 6}, true},
		{asked{0o640, 1, 2, 1, 3, 4}, true},
		{asked{0o640, 1, 2, 1, 3, 7}, false},
		{asked{0o640, 1, 2, 3, 2, 4}, true},
		{asked{0o640, 1, 2, 3, 2, 6}, false},
		{asked{0o640, 1, 2, 3, 4, 4}, false},
		{asked{0o640, 1, 2, 3, 4, 0}, true},
		{asked{0o640, 1, 2, 0, 4, 7}, true},
		{asked{0o751, 1, 2, 3, 4, 1}, true},
		{asked{0o751, 1, 2, 3, 4, 2}, false},
		{asked{0o751, 1, 2, 3, 2, 5}, true},
		{asked{0o751, 1, 2, 3, 2, 2}, false},
		{asked{0o751, 1, 2, 1, 2, 7}, true},
		{asked{0o007, 1, 2, 2, 1, 7}, true},
		{asked{0o070, 1, 2, 2, 1, 7}, false},
		{asked{0o700, 1, 2, 2, 1, 7}, false},
		{asked{0o777, 9, 9, 9, 9, 7}, true},
	} {
		wantMay(t, c.asked, c.want)
	}
}

// TestMayZero (12.1): who 0 may all, whosever it is.
func TestMayZero(t *testing.T) {
	for mode := range 512 {
		for want := range 8 {
			for _, rest := range [][3]int{{0, 0, 0}, {0, 0, 1}, {1, 0, 0}, {1, 1, 1}, {1, 2, 3}, {9, 9, 9}, {9, 0, 9}} {
				wantMay(t, asked{mode, rest[0], rest[1], 0, rest[2], want}, true)
			}
		}
	}
}

// TestMayOwner (12.1): the owner's three alone count for the owner, of the set or not.
func TestMayOwner(t *testing.T) {
	for _, who := range []int{1, 2, 9} {
		for _, his := range []int{0, 1, 2, 9} {
			for _, set := range []int{0, 1, 2, 9} {
				wantMay(t, asked{0o700, who, set, who, his, 7}, true)
				wantMay(t, asked{0o077, who, set, who, his, 1}, false)
				wantMay(t, asked{0o077, who, set, who, his, 2}, false)
				wantMay(t, asked{0o077, who, set, who, his, 4}, false)
				wantMay(t, asked{0o077, who, set, who, his, 0}, true)
				wantMay(t, asked{0o477, who, set, who, his, 4}, true)
				wantMay(t, asked{0o477, who, set, who, his, 5}, false)
			}
		}
	}
}

// TestMayOfSet (12.1): the set's three alone count for one of the set, who is not the owner; his number may be the
// owner's, or 0, which says nothing more.
func TestMayOfSet(t *testing.T) {
	for _, set := range []int{0, 1, 2, 9} {
		wantMay(t, asked{0o070, 1, set, 2, set, 7}, true)
		wantMay(t, asked{0o707, 1, set, 2, set, 1}, false)
		wantMay(t, asked{0o707, 1, set, 2, set, 2}, false)
		wantMay(t, asked{0o707, 1, set, 2, set, 4}, false)
		wantMay(t, asked{0o707, 1, set, 2, set, 0}, true)
		wantMay(t, asked{0o727, 1, set, 2, set, 2}, true)
		wantMay(t, asked{0o727, 1, set, 2, set, 3}, false)
		wantMay(t, asked{0o070, 0, set, 2, set, 7}, true)
		wantMay(t, asked{0o707, 0, set, 2, set, 7}, false)
	}
}

// TestMayOther (12.1): the others' three alone count for one who is neither the owner nor of the set, also where who is
// the set's number, or his the owner's.
func TestMayOther(t *testing.T) {
	for _, rest := range [][4]int{{1, 2, 3, 4}, {1, 2, 2, 1}, {0, 0, 1, 1}, {0, 1, 1, 0}, {9, 8, 8, 9}, {1, 0, 9, 1}} {
		owner, set, who, his := rest[0], rest[1], rest[2], rest[3]
		wantMay(t, asked{0o007, owner, set, who, his, 7}, true)
		wantMay(t, asked{0o770, owner, set, who, his, 1}, false)
		wantMay(t, asked{0o770, owner, set, who, his, 2}, false)
		wantMay(t, asked{0o770, owner, set, who, his, 4}, false)
		wantMay(t, asked{0o770, owner, set, who, his, 0}, true)
		wantMay(t, asked{0o771, owner, set, who, his, 1}, true)
		wantMay(t, asked{0o771, owner, set, who, his, 3}, false)
	}
}

// TestMayAllWanted (12.1): each want at each three bits of a mode, for the owner, the set and the others, where the
// other threes have nothing and where they have all.
func TestMayAllWanted(t *testing.T) {
	within := [8]string{"0", "01", "02", "0123", "04", "0145", "0246", "01234567"}
	for bits := range 8 {
		for want := range 8 {
			may := strings.Contains(within[bits], fmt.Sprint(want))
			wantMay(t, asked{bits << 6, 1, 2, 1, 2, want}, may)
			wantMay(t, asked{bits<<6 | 0o077, 1, 2, 1, 2, want}, may)
			wantMay(t, asked{bits << 3, 1, 2, 3, 2, want}, may)
			wantMay(t, asked{bits<<3 | 0o707, 1, 2, 3, 2, want}, may)
			wantMay(t, asked{bits, 1, 2, 3, 4, want}, may)
			wantMay(t, asked{bits | 0o770, 1, 2, 3, 4, want}, may)
		}
	}
}

// TestMayAll (12.1): every mode and want with some numbers of those who ask, and every such number with some modes, by
// the second way of reckoning.
func TestMayAll(t *testing.T) {
	some := []int{0, 1, 9}
	for mode := range 512 {
		for want := range 8 {
			for i := range 81 {
				a := asked{mode, some[i/27], some[i/9%3], some[i/3%3], some[i%3], want}
				wantMay(t, a, a.slow())
			}
		}
	}
	for _, mode := range []int{0o421, 0o652, 0o370} {
		for i := range 10_000 {
			for want := range 8 {
				a := asked{mode, i / 1000, i / 100 % 10, i / 10 % 10, i % 10, want}
				wantMay(t, a, a.slow())
			}
		}
	}
}

// mostOf are the greatest numbers that May takes, in their order.
func mostOf() asked { return asked{511, 9, 9, 9, 9, 7} }

// outside are numbers that may not be, below 0 and above the greatest one that may.
func outside(most int) []int {
	return []int{
		-1, -2, -most, -512, -1_000_000, math.MinInt32, math.MinInt64, math.MinInt64 + 1,
		most + 1, most + 2, 512, 1_024, 1_000_000, math.MaxInt32, 1 << 32, math.MaxInt64,
	}
}

// TestMayEdges (12.1): each number at its least and at its greatest, and outside of them, also where who is 0.
func TestMayEdges(t *testing.T) {
	for _, good := range []asked{{}, {0o777, 1, 1, 1, 1, 7}, {0o640, 1, 2, 3, 4, 0}, {0o777, 5, 5, 0, 5, 7}, mostOf()} {
		for i, most := range mostOf() {
			for _, n := range []int{0, most} {
				a := good
				a[i] = n
				wantMay(t, a, a.slow())
			}
			for _, n := range outside(most) {
				a := good
				a[i] = n
				wantMayNot(t, a)
			}
		}
	}
}

// TestMayTwoWrong (12.1, P1): two numbers at once that may not be.
func TestMayTwoWrong(t *testing.T) {
	for i := range 6 {
		for k := range i {
			for _, n := range outside(mostOf()[i]) {
				for _, m := range outside(mostOf()[k]) {
					a := asked{0o777, 1, 1, 1, 1, 7}
					a[i], a[k] = n, m
					wantMayNot(t, a)
				}
			}
		}
	}
	wantMayNot(t, asked{-1, -1, -1, -1, -1, -1})
	wantMayNot(t, asked{512, 10, 10, 10, 10, 8})
}

// TestNewByHand (12.1): written out.
func TestNewByHand(t *testing.T) {
	for _, c := range [][3]int{
		{0, 0, 0}, {0, 511, 0}, {511, 0, 511}, {511, 511, 0}, {0o666, 0o022, 0o644}, {0o777, 0o027, 0o750},
		{0o644, 0o644, 0}, {0o421, 0o356, 0o421}, {0o111, 0o666, 0o111}, {0o700, 0o300, 0o400}, {1, 256, 1}, {256, 1, 256},
	} {
		wantNew(t, c[0], c[1], c[2], api.OK)
	}
}

// TestNewEachBit (12.1): each bit alone, in both, in one and in none.
func TestNewEachBit(t *testing.T) {
	for i := range 9 {
		bit := 1 << i
		wantNew(t, bit, bit, 0, api.OK)
		wantNew(t, bit, 0, bit, api.OK)
		wantNew(t, 0, bit, 0, api.OK)
		wantNew(t, bit, 511-bit, bit, api.OK)
		wantNew(t, 511-bit, bit, 511-bit, api.OK)
		wantNew(t, 511, bit, 511-bit, api.OK)
		wantNew(t, 511, 511-bit, bit, api.OK)
	}
}

// TestNewAll (12.1): all modes with all masks, bit by bit: what was not asked does not come out.
func TestNewAll(t *testing.T) {
	for asked := range 512 {
		for mask := range 512 {
			want := 0
			for bit := 1; bit < 512; bit *= 2 {
				if asked/bit%2 == 1 && mask/bit%2 == 0 {
					want += bit
				}
			}
			wantNew(t, asked, mask, want, api.OK)
		}
	}
}

// TestNewNoMode (12.1): one of the two, or both, are none.
func TestNewNoMode(t *testing.T) {
	for _, no := range outside(511) {
		for _, mode := range []int{0, 1, 256, 0o644, 511} {
			wantNew(t, no, mode, 0, api.ErrRange)
			wantNew(t, mode, no, 0, api.ErrRange)
		}
		for _, other := range outside(511) {
			wantNew(t, no, other, 0, api.ErrRange)
		}
	}
}

// TestShowByHand (12.2): written out.
func TestShowByHand(t *testing.T) {
	for mode, want := range map[int]string{
		0: "---------", 511: "rwxrwxrwx", 0o644: "rw-r--r--", 0o755: "rwxr-xr-x", 0o123: "--x-w--wx", 0o421: "r---w---x",
		256: "r--------", 128: "-w-------", 64: "--x------", 32: "---r-----", 16: "----w----", 8: "-----x---",
		4: "------r--", 2: "-------w-", 1: "--------x",
	} {
		wantShow(t, mode, want, api.OK)
		wantRead(t, want, mode, api.OK)
	}
}

// TestShowAll (12.2): all modes, by the second way of reckoning; each one is read again.
func TestShowAll(t *testing.T) {
	for mode := range 512 {
		wantShow(t, mode, slowShow(mode), api.OK)
		shown, _ := Show(mode)
		wantRead(t, shown, mode, api.OK)
	}
}

// TestShowNoMode (12.2): what is no mode is not shown.
func TestShowNoMode(t *testing.T) {
	for _, no := range outside(511) {
		wantShow(t, no, "", api.ErrRange)
	}
}

// TestReadNotNine (12.2, P3): texts of another length, also where bytes in them are wrong besides.
func TestReadNotNine(t *testing.T) {
	for _, s := range []string{
		"", "-", "r", "rwx", "rwxrwx", "rw-rwxr", "rwxrwxrw", "--------", "rwxrwxrwx-", "rwxrwxrwxr", "-rwxrwxrwx",
		"----------", "rwxrwxrwxrwx", "rwxrwxrwx\n", "rwxrwxrwx\x00", " rwxrwxrwx", "drwxr-xr-x", "x", "?", "RWX", "\x00",
		"????????", "??????????", "xwrxwrxw", "xwrxwrxwrx", "0644", "644", "rwxrwxr\xff", "rwxrwxrwé",
		strings.Repeat("r", 1_000_000), strings.Repeat("-", 100_000), strings.Repeat("rwx", 4), strings.Repeat("\xff", 18),
	} {
		wantRead(t, s, 0, api.ErrShape)
	}
}

// TestReadEachByte (12.2): at each place each byte, in texts whose other bytes are good.
func TestReadEachByte(t *testing.T) {
	for at := range 9 {
		for b := range 256 {
			for _, good := range []string{"---------", "rwxrwxrwx", "rw-r--r--", "-wx-w---x"} {
				s := []byte(good)
				s[at] = byte(b)
				want, no := 0, api.ErrSyntax
				if b == '-' || b == int("rwxrwxrwx"[at]) {
					want, no = slowRead(string(s))
				}
				wantRead(t, string(s), want, no)
			}
		}
	}
}

// TestReadWrong (12.2): written out: letters at other places, capitals, noughts, and more than one wrong byte.
func TestReadWrong(t *testing.T) {
	for _, s := range []string{
		"xwrxwrxwr", "wrxrwxrwx", "rwxrwxrxw", "RWXRWXRWX", "Rwxrwxrwx", "rwxrwxrwX", "000000000", "rwxrwxrw0", "111111111",
		"rwsrwxrwx", "rwxrwxrwt", "?????????", "         ", "rwx rwx r", "rwxrwxrw\n", "\x00\x00\x00\x00\x00\x00\x00\x00\x00",
		"rwxrwxr\u00e9", "---\u2014---", "\xff\xff\xff\xff\xff\xff\xff\xff\xff", "---------"[:8] + "_", "?wxrwxrw?",
	} {
		wantRead(t, s, 0, api.ErrSyntax)
	}
}

// TestReadMixed (12.2): every text of nine bytes over all signs that may stand somewhere is shown as it was, or none.
func TestReadMixed(t *testing.T) {
	var told [8]int
	for i := range 1 << 18 {
		s := make([]byte, 9)
		for k := range s {
			s[k] = "-rwx"[i>>(2*k)&3]
		}
		want, no := slowRead(string(s))
		told[no]++
		wantRead(t, string(s), want, no)
		if no == api.OK {
			wantShow(t, want, string(s), api.OK)
		}
	}
	if told[api.OK] != 512 || told[api.ErrSyntax] != 1<<18-512 {
		t.Errorf("%d texts can be read, and %d can not", told[api.OK], told[api.ErrSyntax])
	}
}

// TestAskedAgain (12.1, 12.2, P2): nothing is kept from one call to the next, whatever was asked between.
func TestAskedAgain(t *testing.T) {
	for range 3 {
		wantShow(t, 0o640, "rw-r-----", api.OK)
		wantShow(t, 512, "", api.ErrRange)
		wantShow(t, 0, "---------", api.OK)
		wantShow(t, 511, "rwxrwxrwx", api.OK)
		wantRead(t, "rwxrwxrw?", 0, api.ErrSyntax)
		wantRead(t, "--------x", 1, api.OK)
		wantMayNot(t, asked{512, 1, 2, 1, 2, 7})
		wantMay(t, asked{0o640, 1, 2, 3, 2, 4}, true)
		wantMay(t, asked{0o640, 1, 2, 3, 4, 4}, false)
		wantNew(t, 0o777, 0o022, 0o755, api.OK)
		wantNew(t, 0o777, -1, 0, api.ErrRange)
	}
}
