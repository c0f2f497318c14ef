package path

import (
	"fmt"
	"reflect"
	"slices"
	"strings"
	"testing"

	"platterhold/api"
	"platterhold/plain"
)

// reader is a path that is read sign by sign: the names so far, and the part that has begun.
type reader struct {
	names []string
	part  []byte
	wrong bool
}

// end is that of a part: behind it a / stands, or nothing.
func (r *reader) end() {
	part := string(r.part)
	r.part = nil
	switch {
	case part == "" || part == ".":
	case part == "..":
		if len(r.names) > 0 {
			r.names = r.names[:len(r.names)-1]
		}
	case slowName(part):
		r.names = append(r.names, part)
	default:
		r.wrong = true
	}
}

// slowName is Name in another way than the program's: nothing is left of one to four signs when all letters are gone.
func slowName(s string) bool {
	return 0 < len(s) && len(s) < 5 && strings.Trim(s, "abcdefghijklmnopqrstuvwxyz") == ""
}

// slowParts is Parts in another way than the program's: from the beginning on, sign by sign.
func slowParts(s string) ([]string, api.Errno) {
	if len(s) >= 61 {
		return nil, api.ErrFull
	}
	if s == "" || s[0] != '/' {
		return nil, api.ErrSyntax
	}
	var r reader
	for i := 1; i < len(s); i++ {
		if s[i] == '/' {
			r.end()
		} else {
			r.part = append(r.part, s[i])
		}
	}
	r.end()
	if r.wrong {
		return nil, api.ErrSyntax
	}
	if len(r.names) >= 9 {
		return nil, api.ErrFull
	}
	return r.names, api.OK
}

// slowClean writes a / ahead of each name, and one if there is none.
func slowClean(s string) (string, api.Errno) {
	names, no := slowParts(s)
	if no != api.OK {
		return "", no
	}
	clean := ""
	for _, name := range names {
		clean += "/" + name
	}
	if clean == "" {
		clean = "/"
	}
	return clean, api.OK
}

// slowJoin is Join by slowClean.
func slowJoin(a, b string) (string, api.Errno) {
	if b != "" && b[0] == '/' {
		return slowClean(b)
	}
	return slowClean(fmt.Sprintf("%s/%s", a, b))
}

// wantError asks for an error, for which nil alone stands for none.
func wantError(t *testing.T, what string, err error, want api.Errno) {
	t.Helper()
	if told := plain.Told(err); told != want {
		t.Errorf("%s: error %v, want %v", what, told, want)
	}
	if (err == nil) != (want == api.OK) {
		t.Errorf("%s: error is nil: %v, want %v", what, err == nil, want == api.OK)
	}
}

// wantName asks for what Name answers.
func wantName(t *testing.T, s string, want bool) {
	t.Helper()
	if got := Name(s); got != want {
		t.Errorf("Name(%q): got %v, want %v", s, got, want)
	}
}

// wantParts asks for what Parts answers; with an error there is no name.
func wantParts(t *testing.T, s string, want []string, wantNo api.Errno) {
	t.Helper()
	got, err := Parts(s)
	what := fmt.Sprintf("Parts(%q)", s)
	wantError(t, what, err, wantNo)
	if !slices.Equal(got, want) {
		t.Errorf("%s: got %q, want %q", what, got, want)
	}
}

// wantClean asks for what Clean answers.
func wantClean(t *testing.T, s, want string, wantNo api.Errno) {
	t.Helper()
	got, err := Clean(s)
	what := fmt.Sprintf("Clean(%q)", s)
	wantError(t, what, err, wantNo)
	if got != want {
		t.Errorf("%s: got %q, want %q", what, got, want)
	}
}

// wantJoin asks for what Join answers.
func wantJoin(t *testing.T, a, b, want string, wantNo api.Errno) {
	t.Helper()
	got, err := Join(a, b)
	what := fmt.Sprintf("Join(%q, %q)", a, b)
	wantError(t, what, err, wantNo)
	if got != want {
		t.Errorf("%s: got %q, want %q", what, got, want)
	}
}

// wantPath asks Parts for names that stand in a text with blanks between them, and Clean for the same ones; what is
// clean stays so.
func wantPath(t *testing.T, s, names string) {
	t.Helper()
	want := strings.Fields(names)
	clean := "/" + strings.Join(want, "/")
	wantParts(t, s, want, api.OK)
	wantClean(t, s, clean, api.OK)
	wantParts(t, clean, want, api.OK)
	wantClean(t, clean, clean, api.OK)
}

// wantNoPath asks Parts and Clean for an error.
func wantNoPath(t *testing.T, s string, want api.Errno) {
	t.Helper()
	wantParts(t, s, nil, want)
	wantClean(t, s, "", want)
}

// wantSlow asks Name, Parts and Clean for what the second way of reckoning tells, and gives its error.
func wantSlow(t *testing.T, s string) api.Errno {
	t.Helper()
	wantName(t, s, slowName(s))
	names, no := slowParts(s)
	if no == api.OK {
		wantPath(t, s, strings.Join(names, " "))
	} else {
		wantNoPath(t, s, no)
	}
	return no
}

// texts are all that have up to so many of the signs.
func texts(signs string, most int) []string {
	all := []string{""}
	from := 0
	for range most {
		to := len(all)
		for _, s := range all[from:to] {
			for _, sign := range []byte(signs) {
				all = append(all, s+string(rune(sign)))
			}
		}
		from = to
	}
	return all
}

// noLetters are all bytes that are no letter from a to z.
func noLetters() []byte {
	var all []byte
	for b := range 256 {
		if b < 97 || b > 122 {
			all = append(all, byte(b))
		}
	}
	return all
}

// full is a path of size bytes, from 1 on, with many / ahead of the names.
func full(size int, names string) string {
	return strings.Repeat("/", size-len(names)) + names
}

// TestNumbers (11.1, P3): the numbers that bound things, which the tests here write out.
func TestNumbers(t *testing.T) {
	if api.MaxName != 4 || api.MaxPath != 60 || api.MaxDepth != 8 {
		t.Fatalf("MaxName %d, MaxPath %d, MaxDepth %d", api.MaxName, api.MaxPath, api.MaxDepth)
	}
}

// TestNameSizes (11.1): no letter, one, MaxName, one more, and far more.
func TestNameSizes(t *testing.T) {
	wantName(t, "", false)
	for letter := byte('a'); letter <= 'z'; letter++ {
		one := string(rune(letter))
		for size := 1; size <= 4; size++ {
			wantName(t, strings.Repeat(one, size), true)
		}
		for _, size := range []int{5, 6, 8, 60, 61, 256, 257, 260, 65_537, 1_000_000} {
			wantName(t, strings.Repeat(one, size), false)
		}
	}
	for _, s := range []string{"ab", "az", "za", "abc", "xyz", "abcd", "wxyz", "zzza", "azaz"} {
		wantName(t, s, true)
	}
	wantName(t, "abcde", false)
}

// TestNameBytes (11.1): each byte that is no letter from a to z, at each place of names of each size.
func TestNameBytes(t *testing.T) {
	for _, b := range noLetters() {
		for size := 1; size <= 6; size++ {
			for at := range size {
				s := []byte("amzbyc")[:size]
				s[at] = b
				wantName(t, string(s), false)
			}
		}
	}
}

// TestNameSigns (11.1): what parts a path, letters that are others, and signs of more than one byte.
func TestNameSigns(t *testing.T) {
	for _, s := range []string{
		".", "..", "...", "/", "/a", "a/", "a/b", ".a", "a.", "A", "Z", "aB", "Ab", "0", "a1", "`", "{", "a`", "{z",
		" ", " a", "a ", "a b", "\x00", "a\x00", "\x00a", "a\n", "\ta", "-", "_", "a_b", "\x80", "\xff", "\xe1", "a\xfa",
		"ä", "aä", "é", "а", "ａ", "\u0131", "\u017f", "\u212a",
	} {
		wantName(t, s, false)
	}
}

// TestPartsOfRoot (11.1): no name at all.
func TestPartsOfRoot(t *testing.T) {
	for _, s := range []string{
		"/", "//", "///", "/.", "/./", "/./.", "/.//.", "/..", "/../", "/../..", "/.././..", "//..//", "/../../..",
		"/a/..", "/a/../", "/abcd/../.", "/a/b/../..", "/a/../b/..", "/a/../../b/..", "/../a/..", "/a/.././..//",
	} {
		wantPath(t, s, "")
	}
}

// TestPartsNames (11.1): names alone, and beside parts that say nothing; a / at the end, and none.
func TestPartsNames(t *testing.T) {
	wantPath(t, "/a", "a")
	wantPath(t, "/z", "z")
	wantPath(t, "/abcd", "abcd")
	wantPath(t, "/a/b", "a b")
	wantPath(t, "/a/a", "a a")
	wantPath(t, "/b/a", "b a")
	wantPath(t, "/ab/c/wxyz", "ab c wxyz")
	for _, s := range []string{
		"/ab/c", "/ab/c/", "/ab/c//", "//ab/c", "/ab//c", "///ab///c///", "/./ab/c", "/ab/./c", "/ab/c/.", "/ab/c/./",
		"/././ab/././c/././", "/.//ab/.//c/.//", "//./ab//./c//.",
	} {
		wantPath(t, s, "ab c")
	}
}

// TestPartsUp (11.1): `..` where no name is left, where one is, and where many are, behind and ahead of names.
func TestPartsUp(t *testing.T) {
	for _, c := range [][2]string{
		{"/../a", "a"}, {"/../../a", "a"}, {"/../../../../a/b", "a b"},
		{"/a/../b", "b"}, {"/a/../../b", "b"}, {"/a/../../../b", "b"}, {"/a/../b/..", ""}, {"/a/../b/../c", "c"},
		{"/a/b/..", "a"}, {"/a/b/../", "a"}, {"/a/b/../c", "a c"}, {"/a/b/../../c", "c"}, {"/a/b/../../../c", "c"},
		{"/a/b/c/..", "a b"}, {"/a/b/c/../..", "a"}, {"/a/b/c/../../d", "a d"}, {"/a/b/c/../d/../e", "a b e"},
		{"/a//..", ""}, {"/a/./..", ""}, {"/a/b//./../c", "a c"}, {"/a/b/.././../c", "c"}, {"/a/b/..//../c", "c"},
		{"/../a/../b/c/..", "b"}, {"/a/b/c/d/e/f/g/h/..", "a b c d e f g"}, {"/a/b/c/d/e/f/g/h/../../../..", "a b c d"},
		{"/a/b/../c/d/../../e", "a e"}, {"/a/b/c/../../../../d/e", "d e"}, {"/../a/../../b/c/../d", "b d"},
		{"/a/a/../b/a", "a b a"}, {"/ab/abc/../abcd", "ab abcd"},
	} {
		wantPath(t, c[0], c[1])
	}
}

// wrongParts are texts that may not stand between two /.
func wrongParts() []string {
	all := []string{
		"...", "....", ".....", ".a", "a.", "..a", "a..", ".a.", "a.b", ".. ", " ..", ". ", " .", " ",
		"abcde", "zzzzz", "abcdef", strings.Repeat("a", 20), "A", "abC", "a1", "1", "a-b", "*", "~", "\\", "..\x00",
		".\x00", "ä", "．", "\xc0\xaf", "\u2024", "\u2025",
	}
	for _, b := range noLetters() {
		if b != '/' && b != '.' {
			all = append(all, string([]byte{b}), string([]byte{b, 'a'}), string([]byte{'a', b, 'z'}), string([]byte{'a', b}))
		}
	}
	return all
}

// TestPartsWrongPart (11.1): a part that is none, alone, at each place, and where a `..` would take it away.
func TestPartsWrongPart(t *testing.T) {
	for _, part := range wrongParts() {
		for _, s := range []string{
			"/%s", "/%s/", "//%s", "/a/%s", "/%s/a", "/a/%s/b", "/%s/..", "/a/%s/../..", "/../%s", "/%s/%s", "/./%s/.",
			"/a/b/c/d/e/f/g/h/%s/..",
		} {
			wantNoPath(t, strings.ReplaceAll(s, "%s", part), api.ErrSyntax)
		}
	}
}

// TestPartsNoSlash (11.1): what does not begin with / is no path, whatever follows.
func TestPartsNoSlash(t *testing.T) {
	for _, s := range []string{
		"", "a", "ab", "abcd", "abcde", ".", "..", "...", "a/", "a/b", "./a", "../a", "a/..", " /a", "\x00/a", "\\a",
		".//", "a//", "\n/", "\xff", "∕a", "／a",
	} {
		wantNoPath(t, s, api.ErrSyntax)
	}
	for b := range 256 {
		if b != '/' {
			wantNoPath(t, string([]byte{byte(b)}), api.ErrSyntax)
			wantNoPath(t, string([]byte{byte(b), '/', 'a'}), api.ErrSyntax)
		}
	}
}

// TestPartsLong (11.1): MaxPath bytes may be, one more may not, nor far more.
func TestPartsLong(t *testing.T) {
	for _, c := range [][2]string{
		{"/", ""}, {"/a", "a"}, {"/abcd/wxyz", "abcd wxyz"}, {"/a/..", ""}, {"/a/.", "a"},
		{"/a/b/c/d/e/f/g/h", "a b c d e f g h"},
	} {
		for _, size := range []int{58, 59, 60} {
			wantPath(t, full(size, c[0]), c[1])
		}
		for _, size := range []int{61, 62, 64, 120, 256, 257, 300, 65_537, 1_000_000} {
			wantNoPath(t, full(size, c[0]), api.ErrFull)
		}
	}
	wantPath(t, strings.Repeat("/..", 20), "")
	wantNoPath(t, strings.Repeat("/..", 20)+"/", api.ErrFull)
	wantPath(t, strings.Repeat("/abcd/.", 8)+"/../", "abcd abcd abcd abcd abcd abcd abcd")
	wantNoPath(t, strings.Repeat("/.", 31), api.ErrFull)
}

// TestPartsLongAndWrong (11.1, P3): too many bytes are told ahead of what is wrong in them; at the edge that is told.
func TestPartsLongAndWrong(t *testing.T) {
	for _, part := range wrongParts() {
		s := "/" + part
		wantNoPath(t, full(60, s), api.ErrSyntax)
		wantNoPath(t, full(61, s), api.ErrFull)
		wantNoPath(t, full(300, s+"/a"), api.ErrFull)
		wantNoPath(t, s+full(60-len(s), "/"), api.ErrSyntax)
		wantNoPath(t, s+full(61-len(s), "/"), api.ErrFull)
	}
	for _, sign := range []string{"a", ".", " ", "\x00", "\xff"} {
		wantNoPath(t, sign+full(59, "/a"), api.ErrSyntax)
		wantNoPath(t, sign+full(60, "/a"), api.ErrFull)
		wantNoPath(t, strings.Repeat(sign, 60), api.ErrSyntax)
		wantNoPath(t, strings.Repeat(sign, 61), api.ErrFull)
		wantNoPath(t, strings.Repeat(sign, 1_000_000), api.ErrFull)
	}
	wantNoPath(t, strings.Repeat("ä", 30), api.ErrSyntax)
	wantNoPath(t, strings.Repeat("ä", 31), api.ErrFull)
}

// TestPartsDeep (11.1): MaxDepth names may be left, one more may not, nor as many as there is place for.
func TestPartsDeep(t *testing.T) {
	letters := "abcdefghijklmnopqrstuvwxyzabcd"
	for many := 1; many <= 30; many++ {
		names := strings.Split(letters[:many], "")
		s := "/" + strings.Join(names, "/")
		if many <= 8 {
			wantPath(t, s, strings.Join(names, " "))
		} else {
			wantNoPath(t, s, api.ErrFull)
		}
	}
	wantPath(t, strings.Repeat("/abcd", 8), strings.Repeat("abcd ", 8))
	wantNoPath(t, strings.Repeat("/abcd", 9), api.ErrFull)
	wantNoPath(t, strings.Repeat("/abcd", 12), api.ErrFull)
	wantPath(t, strings.Repeat("/./a/", 8), strings.Repeat("a ", 8))
	wantNoPath(t, strings.Repeat("/./a/", 9), api.ErrFull)
}

// TestPartsDeepOnTheWay (11.1): how many names are left is asked at the end alone.
func TestPartsDeepOnTheWay(t *testing.T) {
	nine, eight := "/a/b/c/d/e/f/g/h/i", "a b c d e f g h"
	wantNoPath(t, nine, api.ErrFull)
	wantPath(t, nine+"/..", eight)
	wantPath(t, nine+"/../", eight)
	wantPath(t, nine+"/./..", eight)
	wantPath(t, nine+"/j/../..", eight)
	wantPath(t, nine+"/../../z", "a b c d e f g z")
	wantNoPath(t, nine+"/../z", api.ErrFull)
	wantNoPath(t, nine+"/j/..", api.ErrFull)
	wantNoPath(t, nine+"/../j/k", api.ErrFull)
	for many := 9; many <= 12; many++ {
		way := strings.Repeat("/a", many)
		wantNoPath(t, way+strings.Repeat("/..", many-9), api.ErrFull)
		wantPath(t, way+strings.Repeat("/..", many-8), strings.Repeat("a ", 8))
		wantPath(t, way+strings.Repeat("/..", many), "")
	}
	wantPath(t, "/.."+strings.Repeat("/a", 8), strings.Repeat("a ", 8))
	wantNoPath(t, "/.."+strings.Repeat("/a", 9), api.ErrFull)
	wantPath(t, strings.Repeat("/a/..", 12), "")
	wantPath(t, strings.Repeat("/a/..", 10)+strings.Repeat("/z", 5), "z z z z z")
}

// TestPartsDeepAndWrong (11.1, P3): a part that is none is told ahead of too many names, wherever it stands.
func TestPartsDeepAndWrong(t *testing.T) {
	for _, part := range []string{"...", ".a", "a.", "abcde", "A", " "} {
		for at := range 12 {
			parts := slices.Repeat([]string{"a"}, 12)
			parts[at] = part
			wantNoPath(t, "/"+strings.Join(parts, "/"), api.ErrSyntax)
			wantNoPath(t, strings.Join(parts, "/"), api.ErrSyntax)
		}
	}
	wantNoPath(t, strings.Repeat("a/", 12), api.ErrSyntax)
	wantNoPath(t, strings.Repeat("/a", 30)+"/", api.ErrFull)
}

// TestCleanByHand (11.1): written out, since the other tests put what is clean together.
func TestCleanByHand(t *testing.T) {
	for _, c := range [][2]string{
		{"/", "/"}, {"//", "/"}, {"/.", "/"}, {"/..", "/"}, {"/a/..", "/"}, {"/a", "/a"}, {"/a/", "/a"}, {"//a", "/a"},
		{"/a/b", "/a/b"}, {"/a//b/", "/a/b"}, {"/a/./b/..", "/a"}, {"/../a/b/../c", "/a/c"}, {"/abcd/../wxyz/.", "/wxyz"},
		{"/a/b/c/d/e/f/g/h", "/a/b/c/d/e/f/g/h"}, {"/a/b/c/d/e/f/g/h/i/..", "/a/b/c/d/e/f/g/h"},
	} {
		wantClean(t, c[0], c[1], api.OK)
	}
	wantClean(t, "", "", api.ErrSyntax)
	wantClean(t, "a", "", api.ErrSyntax)
	wantClean(t, "/a/.b", "", api.ErrSyntax)
	wantClean(t, "/a/b/c/d/e/f/g/h/i", "", api.ErrFull)
	wantClean(t, strings.Repeat("/", 61), "", api.ErrFull)
}

// TestJoinFromRoot (11.1): b that begins with / is all, whatever a is.
func TestJoinFromRoot(t *testing.T) {
	for _, a := range []string{
		"", "/", "/a", "/a/b", "/..", "a", "..", "/A", "/abcde", "/a/b/c/d/e/f/g/h", "/a/b/c/d/e/f/g/h/i", "\x00",
		full(60, "/a"), full(61, "/a"), strings.Repeat("A", 1_000_000),
	} {
		wantJoin(t, a, "/", "/", api.OK)
		wantJoin(t, a, "//", "/", api.OK)
		wantJoin(t, a, "/..", "/", api.OK)
		wantJoin(t, a, "/z", "/z", api.OK)
		wantJoin(t, a, "/z/./y/../x/", "/z/x", api.OK)
		wantJoin(t, a, full(60, "/z"), "/z", api.OK)
		wantJoin(t, a, full(61, "/z"), "", api.ErrFull)
		wantJoin(t, a, "/z/...", "", api.ErrSyntax)
		wantJoin(t, a, "/a/b/c/d/e/f/g/h/i", "", api.ErrFull)
	}
}

// TestJoinFromThere (11.1): b that does not begin with / is said from a on.
func TestJoinFromThere(t *testing.T) {
	for _, c := range [][3]string{
		{"/", "a", "/a"}, {"/", "a/b", "/a/b"}, {"/a", "b", "/a/b"}, {"/a/", "b", "/a/b"}, {"/a/b", "c/d/", "/a/b/c/d"},
		{"/ab", "cd", "/ab/cd"}, {"/abcd", "wxyz", "/abcd/wxyz"}, {"/a", "./b", "/a/b"}, {"/a", "b/..", "/a"},
		{"/a", "b//c", "/a/b/c"}, {"//a/./b", "c/./d", "/a/b/c/d"}, {"/a/..", "b", "/b"}, {"/..", "b", "/b"},
		{"/a", ".", "/a"}, {"/", ".", "/"}, {"/a/b", "./", "/a/b"},
		{"/", "..", "/"}, {"/", "../..", "/"}, {"/", "../a", "/a"}, {"/a", "..", "/"}, {"/a", "../..", "/"},
		{"/a", "../b", "/b"}, {"/a/b", "..", "/a"}, {"/a/b", "../c", "/a/c"}, {"/a/b", "../../c", "/c"},
		{"/a/b/c/d/e/f/g/h", "..", "/a/b/c/d/e/f/g"}, {"/a/b/c/d/e/f/g", "h", "/a/b/c/d/e/f/g/h"},
	} {
		wantJoin(t, c[0], c[1], c[2], api.OK)
	}
}

// TestJoinEmpty (11.1): an empty b is no other place; an empty a is the root, since a / stands behind it.
func TestJoinEmpty(t *testing.T) {
	wantJoin(t, "", "", "/", api.OK)
	wantJoin(t, "/", "", "/", api.OK)
	wantJoin(t, "/a", "", "/a", api.OK)
	wantJoin(t, "/a/b/", "", "/a/b", api.OK)
	wantJoin(t, "/a/..", "", "/", api.OK)
	wantJoin(t, "", "a", "/a", api.OK)
	wantJoin(t, "", "a/b", "/a/b", api.OK)
	wantJoin(t, "", ".", "/", api.OK)
	wantJoin(t, "", "..", "/", api.OK)
	wantJoin(t, "", "../a", "/a", api.OK)
	wantJoin(t, "", "abcde", "", api.ErrSyntax)
	wantJoin(t, "", "...", "", api.ErrSyntax)
}

// TestJoinNoPath (11.1): an a that is no path, and parts in b that are none.
func TestJoinNoPath(t *testing.T) {
	for _, b := range []string{"", ".", "..", "a", "a/b", "../..", "...", "A"} {
		for _, a := range []string{"a", "ab", ".", "..", "a/b", " ", " /a", "./a", "\x00", "A", "..."} {
			wantJoin(t, a, b, "", api.ErrSyntax)
		}
		for _, part := range wrongParts() {
			wantJoin(t, "/"+part, b, "", api.ErrSyntax)
			wantJoin(t, "/a/"+part, b, "", api.ErrSyntax)
		}
	}
	for _, part := range wrongParts() {
		wantJoin(t, "/", part, "", api.ErrSyntax)
		wantJoin(t, "/a", part, "", api.ErrSyntax)
		wantJoin(t, "/a", part+"/..", "", api.ErrSyntax)
		wantJoin(t, "/a", "../"+part, "", api.ErrSyntax)
	}
}

// TestJoinLong (11.1, P3): a, / and b may have MaxPath bytes together, and not one more, also where b is empty.
func TestJoinLong(t *testing.T) {
	for _, b := range []string{"", "a", ".", "..", "ab/c", "z/../z"} {
		want, _ := slowJoin("/x/y", b)
		wantJoin(t, full(58-len(b), "/x/y"), b, want, api.OK)
		wantJoin(t, full(59-len(b), "/x/y"), b, want, api.OK)
		wantJoin(t, full(60-len(b), "/x/y"), b, "", api.ErrFull)
		wantJoin(t, full(61-len(b), "/x/y"), b, "", api.ErrFull)
		wantJoin(t, full(100_000, "/x/y"), b, "", api.ErrFull)
	}
	wantJoin(t, "", strings.Repeat("./", 29)+"a", "/a", api.OK)
	wantJoin(t, "", strings.Repeat("./", 29)+"a/", "", api.ErrFull)
	wantJoin(t, "/", strings.Repeat("./", 29), "/", api.OK)
	wantJoin(t, "/", strings.Repeat("./", 29)+"a", "", api.ErrFull)
	for _, wrong := range []string{"A", "...", "abcde"} {
		wantJoin(t, full(59-len(wrong), "/a"), wrong, "", api.ErrSyntax)
		wantJoin(t, full(60-len(wrong), "/a"), wrong, "", api.ErrFull)
		wantJoin(t, wrong, strings.Repeat("a", 59-len(wrong)), "", api.ErrSyntax)
		wantJoin(t, wrong, strings.Repeat("a", 60-len(wrong)), "", api.ErrFull)
	}
	wantJoin(t, strings.Repeat("a", 500_000), strings.Repeat("b", 500_000), "", api.ErrFull)
}

// TestJoinDeep (11.1): names are counted when all is gone along; an a that is too deep for itself may be made good.
func TestJoinDeep(t *testing.T) {
	eight := "/a/b/c/d/e/f/g/h"
	wantJoin(t, eight, "", eight, api.OK)
	wantJoin(t, eight, "i", "", api.ErrFull)
	wantJoin(t, eight, "i/..", eight, api.OK)
	wantJoin(t, eight, "../i", "/a/b/c/d/e/f/g/i", api.OK)
	wantJoin(t, eight, "../i/j", "", api.ErrFull)
	wantJoin(t, eight+"/i", "", "", api.ErrFull)
	wantJoin(t, eight+"/i", ".", "", api.ErrFull)
	wantJoin(t, eight+"/i", "..", eight, api.OK)
	wantJoin(t, eight+"/i", "j/../..", eight, api.OK)
	wantJoin(t, "/a/b/c/d", "e/f/g/h", eight, api.OK)
	wantJoin(t, "/a/b/c/d", "e/f/g/h/i", "", api.ErrFull)
	wantJoin(t, eight, "i/...", "", api.ErrSyntax)
}

// TestAllShort (11.1): every short text over a few signs, by the second way of reckoning.
func TestAllShort(t *testing.T) {
	var told [8]int
	for _, s := range texts("/.a", 9) {
		told[wantSlow(t, s)]++
		told[wantSlow(t, "/"+s)]++
	}
	for _, s := range texts("/.azA", 6) {
		told[wantSlow(t, "/"+s)]++
		told[wantSlow(t, "/ab/c/"+s)]++
		told[wantSlow(t, "/a/b/c/d/e/f/g"+s)]++
	}
	for _, no := range []api.Errno{api.OK, api.ErrSyntax, api.ErrFull} {
		if told[no] < 100 {
			t.Errorf("%v was told %d times: the texts are too poor", no, told[no])
		}
	}
}

// TestAllShortJoined (11.1): each two short texts over a few signs, by the second way of reckoning.
func TestAllShortJoined(t *testing.T) {
	for _, a := range texts("/.aA", 4) {
		for _, b := range texts("/.z", 4) {
			want, no := slowJoin(a, b)
			wantJoin(t, a, b, want, no)
			want, no = slowJoin("/b/c"+a, b)
			wantJoin(t, "/b/c"+a, b, want, no)
		}
	}
}

// mixer tells numbers in an order that looks mixed, and is the same each time.
type mixer uint32

// below is the next number, from 0 to top - 1.
func (m *mixer) below(top int) int {
	*m = *m*1664525 + 1013904223
	return int(*m>>16) % top
}

// text is the next one, of up to most parts, in which now and then one is none, or the first / is not there.
func (m *mixer) text(most int) string {
	parts := []string{"a", "b", "cd", "efg", "wxyz", "z", "", ".", "..", ".."}
	wrong := []string{"...", ".a", "a.", "abcde", "A", "\xff", " "}
	var b strings.Builder
	for i := range m.below(most + 1) {
		if i > 0 || m.below(25) > 0 {
			b.WriteByte('/')
		}
		if m.below(60) == 0 {
			b.WriteString(wrong[m.below(len(wrong))])
		} else {
			b.WriteString(parts[m.below(len(parts))])
		}
	}
	return b.String()
}

// TestMixed (11.1, P3): longer texts, around each edge, by the second way of reckoning.
func TestMixed(t *testing.T) {
	mixed := mixer(11)
	var told, joined [8]int
	for range 50_000 {
		a, b := mixed.text(32), mixed.text(16)
		told[wantSlow(t, a)]++
		b = b[min(mixed.below(2), len(b)):]
		want, no := slowJoin(a, b)
		wantJoin(t, a, b, want, no)
		joined[no]++
	}
	for _, no := range []api.Errno{api.OK, api.ErrSyntax, api.ErrFull} {
		if told[no] < 1_000 || joined[no] < 1_000 {
			t.Errorf("%v was told %d and %d times: the texts are too poor", no, told[no], joined[no])
		}
	}
}

// TestSharesNothing (11.1, P2): writing into names that came out, also behind their length, changes no others.
func TestSharesNothing(t *testing.T) {
	paths := []string{"/a", "/a/b", "/a/b/c", "/abcd/../a/b", "/a/b/c/d/e/f/g/h", "/", "/.."}
	for _, s := range paths {
		var others [][]string
		for _, other := range paths {
			names, _ := Parts(other)
			others = append(others, names)
		}
		names, _ := Parts(s)
		names = names[:cap(names)]
		for i := range names {
			names[i] = "no"
		}
		for i, other := range paths {
			want, _ := slowParts(other)
			if !slices.Equal(others[i], want) {
				t.Errorf("the names of %q became %q", other, others[i])
			}
			wantParts(t, other, want, api.OK)
		}
	}
}

// isWithin tells whether a text that is not empty lies in the memory of another one.
func isWithin(s, all string) bool {
	from, at := reflect.ValueOf(all).Pointer(), reflect.ValueOf(s).Pointer()
	return from <= at && at < from+uintptr(len(all))
}

// TestOwnMemory (11.1, P2): what comes out lies elsewhere than what was handed in.
func TestOwnMemory(t *testing.T) {
	for _, s := range []string{"/a", "/abcd", "/a/b", "/ab/cd/ef", "/a/b/../c", "/a/b/c/d/e/f/g/h"} {
		s = strings.Clone(s)
		names, _ := Parts(s)
		clean, _ := Clean(s)
		joined, _ := Join("/z", s)
		from, _ := Join(s, "")
		for _, out := range append(names, clean, joined, from) {
			if isWithin(out, s) {
				t.Errorf("%q lies in %q, which was handed in", out, s)
			}
		}
	}
}

// TestAskedAgain (11.1, P2): nothing is kept from one call to the next, whatever was asked between.
func TestAskedAgain(t *testing.T) {
	for range 3 {
		wantPath(t, "/a/b", "a b")
		wantNoPath(t, "/a/...", api.ErrSyntax)
		wantPath(t, "/..", "")
		wantPath(t, "/a/b", "a b")
		wantNoPath(t, strings.Repeat("/a", 9), api.ErrFull)
		wantJoin(t, "/a", "..", "/", api.OK)
		wantJoin(t, "/a", "b", "/a/b", api.OK)
		wantName(t, "abcd", true)
		wantName(t, "abcde", false)
	}
}
