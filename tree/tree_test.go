package tree

import (
	"fmt"
	"slices"
	"strings"
	"testing"

	"platterhold/api"
	"platterhold/plain"
)

// wantError asks for an error, for which nil alone stands for none.
func wantError(t *testing.T, what string, err error, want api.Errno) {
	t.Helper()
	if told := plain.Told(err); told != want {
		t.Errorf("%s: error %v, want %v", what, told, want)
	}
	if (err == nil) != (want == api.OK) {
		t.Errorf("%s: error is nil: %v, want %v", what, err == nil, want == api.OK)
	}
}

// wantList asks for what List answers.
func wantList(t *testing.T, what string, tree *Tree, s string, want []string, no api.Errno) {
	t.Helper()
	what = fmt.Sprintf("%s: List(%.70q)", what, s)
	got, err := tree.List(s)
	wantError(t, what, err, no)
	if !slices.Equal(got, want) {
		t.Errorf("%s: %q, want %q", what, got, want)
	}
}

// wantNames asks for what Names answers.
func wantNames(t *testing.T, what string, tree *Tree, s string, want int, no api.Errno) {
	t.Helper()
	what = fmt.Sprintf("%s: Names(%.70q)", what, s)
	got, err := tree.Names(s)
	wantError(t, what, err, no)
	if got != want {
		t.Errorf("%s: %d, want %d", what, got, want)
	}
}

// wantWalk asks for what Walk answers.
func wantWalk(t *testing.T, what string, tree *Tree, want []string) {
	t.Helper()
	if got := tree.Walk(); !slices.Equal(got, want) {
		t.Errorf("%s: Walk %q, want %q", what, got, want)
	}
}

// wantTree asks Walk for paths that stand in a text with blanks between them.
func wantTree(t *testing.T, tree *Tree, want string) {
	t.Helper()
	wantWalk(t, "behind all", tree, strings.Fields(want))
}

// wantMany asks Names for numbers: each path of a text has its number behind it.
func wantMany(t *testing.T, tree *Tree, want string) {
	t.Helper()
	words := strings.Fields(want)
	for i := 0; i < len(words); i += 2 {
		got, err := tree.Names(words[i])
		if fmt.Sprint(got) != words[i+1] || err != nil {
			t.Errorf("Names(%q): %d, %v, want %s", words[i], got, err, words[i+1])
		}
	}
}

// stateOf is all that a tree tells of what is there.
func stateOf(tree *Tree) string {
	var b strings.Builder
	for _, s := range append(tree.Walk(), "/") {
		names, noList := tree.List(s)
		many, noNames := tree.Names(s)
		fmt.Fprintln(&b, s, names, noList, many, noNames)
	}
	return b.String()
}

// wantStep does a step, and asks for an error; behind one the tree is as it was.
func wantStep(t *testing.T, tree *Tree, s step, want api.Errno) {
	t.Helper()
	was := stateOf(tree)
	wantError(t, s.String(), s.on(tree), want)
	if now := stateOf(tree); want != api.OK && now != was {
		t.Errorf("%s: the tree was\n%sand is\n%s", s, was, now)
	}
}

// wantDo does steps that stand in a text with ; between them, and asks each one for the same error.
func wantDo(t *testing.T, tree *Tree, steps string, want api.Errno) {
	t.Helper()
	for line := range strings.SplitSeq(steps, ";") {
		wantStep(t, tree, stepOf(line), want)
	}
}

// made is a tree behind steps of which none tells an error.
func made(t *testing.T, steps string) *Tree {
	t.Helper()
	tree := New()
	if steps != "" {
		wantDo(t, tree, steps, api.OK)
	}
	return tree
}

// ask is a call with a path; where it has another one, that one is good.
type ask struct {
	what string
	call func(tree *Tree, s string) error
}

// stepAsk is one by a step, in which the path stands for a *.
func stepAsk(line string) ask {
	return ask{line, func(tree *Tree, s string) error {
		st := stepOf(line)
		st.a = strings.ReplaceAll(st.a, "*", s)
		st.b = strings.ReplaceAll(st.b, "*", s)
		return st.on(tree)
	}}
}

// atAsks are all calls that ask what is at a path.
func atAsks() []ask {
	return []ask{
		{"List", func(tree *Tree, s string) error { _, err := tree.List(s); return err }},
		{"Names", func(tree *Tree, s string) error { _, err := tree.Names(s); return err }},
		stepAsk("l * /new"),
	}
}

// spotAsks are all calls that ask for the spot of a path; those of which it is said name what is not there yet.
func spotAsks(makes bool) []ask {
	if makes {
		return []ask{stepAsk("d *"), stepAsk("f *"), stepAsk("l /g *"), stepAsk("m /g *"), stepAsk("m /h *")}
	}
	return []ask{stepAsk("x *"), stepAsk("m * /new")}
}

// allSpotAsks are both kinds.
func allSpotAsks() []ask { return append(spotAsks(true), spotAsks(false)...) }

// wantAsks asks calls, each on a tree of its own, for an error, behind which the tree is as it was.
func wantAsks(t *testing.T, asks []ask, s string, want api.Errno) {
	t.Helper()
	for _, one := range asks {
		tree := some(t)
		was := stateOf(tree)
		what := fmt.Sprintf("%s: %.70q", one.what, s)
		wantError(t, what, one.call(tree, s), want)
		if want != api.OK && stateOf(tree) != was {
			t.Errorf("%s: the tree was\n%sand is\n%s", what, was, stateOf(tree))
		}
	}
}

// some is a tree with files at each of some depths, and directories with and without names.
func some(t *testing.T) *Tree {
	t.Helper()
	return made(t, "d /d; d /d/e; f /d/e/f; f /d/f; f /g; d /h")
}

// rootTexts are paths that come to the root.
func rootTexts() []string {
	return []string{
		"/", "//", "/.", "/..", "/./", "/../..", "/a/..", "/d/..", "/g/..", "/x/..", "/d/f/../..", "/g/x/../..", "/.//..//",
		strings.Repeat("/", 60), strings.Repeat("/..", 20),
	}
}

// TestNumbers (13.1, 13.2, P3): the numbers that bound things, which the tests here write out.
func TestNumbers(t *testing.T) {
	if api.MaxNodes != 24 || api.MaxDepth != 8 || api.MaxPath != 60 || api.MaxName != 4 {
		t.Fatalf("MaxNodes %d, MaxDepth %d, MaxPath %d, MaxName %d", api.MaxNodes, api.MaxDepth, api.MaxPath, api.MaxName)
	}
}

// TestNew (13.1): the root, a directory, alone.
func TestNew(t *testing.T) {
	tree := New()
	wantTree(t, tree, "")
	for _, s := range rootTexts() {
		wantList(t, "new", tree, s, nil, api.OK)
		wantNames(t, "new", tree, s, 0, api.OK)
	}
	wantList(t, "new", tree, "/a", nil, api.ErrNone)
	wantNames(t, "new", tree, "/a", 0, api.ErrNone)
}

// TestNoPath (13.1, 13.2): texts that are no path, for each call with a path.
func TestNoPath(t *testing.T) {
	for _, s := range []string{
		"", "a", "d", "d/e", "./d", "../d", ".", "..", " /d", "\\d", "/A", "/abcde", "/...", "/d/.x", "/d/ ", "/d/f\x00",
		"/d/\xff", "/d/é", "/g\n", "/d/abcde/..", "/x/...", "/g/X", "/d e", "/*", "d/", "/1",
	} {
		wantAsks(t, atAsks(), s, api.ErrSyntax)
		wantAsks(t, allSpotAsks(), s, api.ErrSyntax)
	}
}

// TestLongPath (13.1, 13.2, P3): texts of more than MaxPath bytes, whatever stands in them, and of as many.
func TestLongPath(t *testing.T) {
	for _, s := range []string{
		strings.Repeat("/", 61), strings.Repeat("/", 59) + "/g", strings.Repeat("/", 58) + "/d/", "/d" + strings.Repeat("/.", 30),
		strings.Repeat("a", 61), strings.Repeat("/..", 21), "/A" + strings.Repeat("/", 59), "/g/x" + strings.Repeat("/", 57),
		"/x/y" + strings.Repeat("/", 57), strings.Repeat("/abcd", 13), strings.Repeat("/", 1_000_000),
	} {
		wantAsks(t, atAsks(), s, api.ErrFull)
		wantAsks(t, allSpotAsks(), s, api.ErrFull)
	}
	ahead := strings.Repeat("/", 58)
	wantAsks(t, atAsks(), ahead+"/x", api.ErrNone)
	wantAsks(t, atAsks()[1:], ahead+"/g", api.OK)
	wantAsks(t, spotAsks(true), ahead+"/x", api.OK)
	wantAsks(t, spotAsks(false), ahead+"/h", api.OK)
}

// TestDeepPath (13.1, 13.2): more than MaxDepth names are left, which is told ahead of what is there, or not; those that
// a .. takes away do not count.
func TestDeepPath(t *testing.T) {
	for _, s := range []string{
		strings.Repeat("/d", 9), "/d/e/a/b/c/d/e/f/g", "/g/a/b/c/d/e/f/g/h", "/x/a/b/c/d/e/f/g/h", strings.Repeat("/abcd", 12),
	} {
		wantAsks(t, atAsks(), s, api.ErrFull)
		wantAsks(t, allSpotAsks(), s, api.ErrFull)
	}
	eight, back := "/x/a/b/c/d/e/f/g", strings.Repeat("/..", 8)
	wantAsks(t, atAsks(), eight, api.ErrNone)
	wantAsks(t, allSpotAsks(), eight, api.ErrNone)
	wantAsks(t, atAsks()[1:], eight+"/h/../../../../../../../../../g", api.OK)
	wantAsks(t, spotAsks(true), eight+back+"/d/y", api.OK)
	wantAsks(t, spotAsks(false), eight+back+"/d/f", api.OK)
}

// TestRoot (13.1, 13.2): the root has no spot, it is no file, and has no name.
func TestRoot(t *testing.T) {
	for _, s := range rootTexts() {
		wantAsks(t, allSpotAsks(), s, api.ErrState)
		wantAsks(t, []ask{stepAsk("l * /new"), stepAsk("l * /g"), stepAsk("l * a")}, s, api.ErrShape)
		wantList(t, "root", some(t), s, []string{"d", "g", "h"}, api.OK)
		wantNames(t, "root", some(t), s, 0, api.OK)
	}
}

// TestNotThere (13.1, 13.2): a name that is not there, first, in the middle, and last.
func TestNotThere(t *testing.T) {
	for _, s := range []string{
		"/x/y", "/x/y/z", "/x/d", "/x/g", "/e/f", "/f/e", "/d/x/y", "/d/x/e/f", "/d/x/f", "/d/e/x/f", "/d/e/x/y/z", "/h/x/y",
		"/h/e/f", "/dd/e", "/d/ee/f", "/de/f", "/x/../y/z", "/d/./x//y", "/d/e/../../x/y", "/x/y/",
	} {
		wantAsks(t, atAsks(), s, api.ErrNone)
		wantAsks(t, allSpotAsks(), s, api.ErrNone)
	}
	for _, s := range []string{"/x", "/e", "/f", "/d/x", "/d/d", "/d/g", "/d/e/x", "/d/e/e", "/h/x", "/h/f", "/dd", "/x/", "/d/../x"} {
		wantAsks(t, atAsks(), s, api.ErrNone)
		wantAsks(t, spotAsks(false), s, api.ErrNone)
		wantAsks(t, spotAsks(true)[:4], s, api.OK)
	}
}

// TestBehindFile (13.1, 13.2): a name that is asked of a file, in the middle, and last.
func TestBehindFile(t *testing.T) {
	for _, s := range []string{
		"/g/x", "/g/g", "/g/d", "/g/x/y", "/g/d/e/f", "/g/x/y/z/a/b/c/d", "/d/f/x", "/d/f/f", "/d/f/x/y", "/d/e/f/x",
		"/d/e/f/f/f", "//g/./x/", "/g/../d/f/x", "/d/e/../f/x", "/g/x/y/..", "/g/x/..//y",
	} {
		wantAsks(t, atAsks(), s, api.ErrShape)
		wantAsks(t, allSpotAsks(), s, api.ErrShape)
	}
}

// TestNotClean (13.1, 13.2): paths that are not clean are those that they come to; a / behind a file's name, and a ..
// behind what is not there, or is a file, say nothing of what is there.
func TestNotClean(t *testing.T) {
	for _, s := range []string{"/d", "//d", "/d/", "/./d/.", "/x/../d", "/g/../d", "/g/x/../../d", "/d/e/..", "/d/f/..", "/../d"} {
		wantList(t, "not clean", some(t), s, []string{"e", "f"}, api.OK)
		wantNames(t, "not clean", some(t), s, 0, api.OK)
		wantAsks(t, spotAsks(true), s, api.ErrClash)
		wantAsks(t, []ask{stepAsk("x *")}, s, api.ErrState)
		wantAsks(t, []ask{stepAsk("l * /new")}, s, api.ErrShape)
		wantAsks(t, []ask{stepAsk("m * /h/d"), stepAsk("m * /new")}, s, api.OK)
	}
	for _, s := range []string{"/d/f", "/d/f/", "/d/f/.", "//d//f//", "/d/e/../f", "/d/f/x/..", "/x/../d/f", "/d/x/../f"} {
		wantList(t, "not clean", some(t), s, nil, api.ErrShape)
		wantNames(t, "not clean", some(t), s, 1, api.OK)
		wantAsks(t, spotAsks(true), s, api.ErrClash)
		wantAsks(t, []ask{stepAsk("x *"), stepAsk("l * /new"), stepAsk("m * /new")}, s, api.OK)
	}
	tree := made(t, "d //a/.; f /x/../a//b/; d /a/b/../c/; f /../a/c/./d; l /a//b /a/./l/; m /a/c/../b/ /a/c/../m/.")
	wantTree(t, tree, "/a/ /a/c/ /a/c/d /a/l /a/m")
}
