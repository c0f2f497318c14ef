package tree

import (
	"fmt"
	"slices"
	"strings"
	"testing"

	"platterhold/api"
)

// chain are steps that make a directory within a directory, so many deep, each with that name.
func chain(name string, deep int) string {
	var steps []string
	for i := 1; i <= deep; i++ {
		steps = append(steps, "d "+strings.Repeat("/"+name, i))
	}
	return strings.Join(steps, ";")
}

// letters are names of one letter, so many.
func letters(many int) []string {
	return strings.Split("abcdefghijklmnopqrstuvwxyz"[:many], "")
}

// fullTrees are trees of MaxNodes names each, in which /a is a directory and /b a file, which has another name /a/b.
func fullTrees(t *testing.T) map[string]*Tree {
	t.Helper()
	begin := "d /a; f /b; l /b /a/b"
	root, below, links, deep := made(t, begin), made(t, begin), made(t, begin), made(t, begin)
	for _, name := range letters(24)[3:] {
		wantDo(t, root, "f /"+name, api.OK)
		wantDo(t, below, "d /a/"+name, api.OK)
		wantDo(t, links, "l /b /a/"+name, api.OK)
	}
	for _, top := range []string{"/c", "/d", "/e"} {
		for i := 1; i <= 7; i++ {
			wantDo(t, deep, "d "+strings.Repeat(top, i), api.OK)
		}
	}
	return map[string]*Tree{"in the root": root, "in a directory": below, "of one file": links, "deep": deep}
}

// TestDirAndFile (13.1): with a name there.
func TestDirAndFile(t *testing.T) {
	tree := made(t, "d /a")
	wantTree(t, tree, "/a/")
	wantDo(t, tree, "f /b; f /a/b; d /a/a; f /a/a/a", api.OK)
	wantTree(t, tree, "/a/ /a/a/ /a/a/a /a/b /b")
	wantMany(t, tree, "/a 0 /a/a 0 /a/a/a 1 /a/b 1 /b 1")
	wantList(t, "made", tree, "/a", []string{"a", "b"}, api.OK)
	wantList(t, "made", tree, "/b", nil, api.ErrShape)
}

// TestNameIsThere (13.1): as a file, and as a directory, empty or not; the same name elsewhere says nothing.
func TestNameIsThere(t *testing.T) {
	tree := made(t, "d /d; f /f; d /e; f /e/f; f /e/d; d /e/e")
	wantDo(t, tree, "d /d; f /d; d /f; f /f; d /e; f /e; d /e/f; f /e/f; d /e/e; f /e/e; l /f /f; l /f /d; l /f /e/f", api.ErrClash)
	wantDo(t, tree, "d /d/d; f /d/f; f /d/e; d /e/e/e; f /e/e/f", api.OK)
}

// TestDirFileErrors (13.1): what is wrong, where the name itself could be.
func TestDirFileErrors(t *testing.T) {
	for _, kind := range []string{"d", "f"} {
		tree := some(t)
		for s, no := range map[string]api.Errno{
			"/x/y": api.ErrNone, "/g/y": api.ErrShape, "/": api.ErrState, "a": api.ErrSyntax, "/abcde": api.ErrSyntax,
			"/a/b/c/d/e/f/g/h/i": api.ErrFull, "/d/..": api.ErrState, "/d/f/x": api.ErrShape, "/d/x/y": api.ErrNone,
		} {
			wantStep(t, tree, step{kind, s, ""}, no)
		}
	}
}

// TestFull (13.1): MaxNodes names, in one directory and in many, and one more; one that is there is told ahead of it,
// and so is what is wrong with the spot.
func TestFull(t *testing.T) {
	for what, tree := range fullTrees(t) {
		if many := len(tree.Walk()); many != 24 {
			t.Fatalf("%s: %d names", what, many)
		}
		wantDo(t, tree, "d /z; f /z; l /b /z; d /a/z; f /a/z; l /a/b /a/z; l /b /z", api.ErrFull)
		wantDo(t, tree, "d /a; f /a; d /b; f /b; l /b /b; l /b /a; l /b /a/b; f /a/b", api.ErrClash)
		wantDo(t, tree, "d /z/z; f /z/z; l /z /y; l /b /z/y; d /a/z/z", api.ErrNone)
		wantDo(t, tree, "d /b/z; f /b/z; l /b /b/z; l /a /z; l / /z; l /b/z /z", api.ErrShape)
		wantDo(t, tree, "d /; f /; l /b /; x /", api.ErrState)
		wantDo(t, tree, "d z; f /Z; l z /z; l /b z", api.ErrSyntax)
	}
}

// TestFullAndBack (13.1): behind a Drop there is place for one more name, of each kind; a Move needs none.
func TestFullAndBack(t *testing.T) {
	for _, again := range []string{"d /z", "f /z", "l /b /z", "d /a/z", "l /b /a/z", "f /b/../a/z"} {
		for _, tree := range fullTrees(t) {
			wantDo(t, tree, "m /a/b /y", api.OK)
			wantDo(t, tree, again, api.ErrFull)
			wantDo(t, tree, "m /y /a/b; m /b /a/y; m /a/y /b", api.OK)
			wantDo(t, tree, again, api.ErrFull)
			wantDo(t, tree, "x /a/b; l /b /a/b", api.OK)
			wantDo(t, tree, again, api.ErrFull)
			others := slices.DeleteFunc(tree.Walk(), func(s string) bool { return s == "/b" })
			wantDo(t, tree, "x "+others[22], api.OK)
			wantDo(t, tree, again, api.OK)
			wantDo(t, tree, "d /yy; f /yy; l /b /yy", api.ErrFull)
		}
	}
}

// TestErrorsDoNotCount (13.1, P1): names that could not be made take no place.
func TestErrorsDoNotCount(t *testing.T) {
	tree := New()
	for range 30 {
		wantDo(t, tree, "d /; f /", api.ErrState)
		wantDo(t, tree, "d /x/y; f /x/y; l /x /y; x /x; m /x /y", api.ErrNone)
	}
	wantDo(t, tree, "f /a", api.OK)
	for range 30 {
		wantDo(t, tree, "d /a; f /a; l /a /a", api.ErrClash)
		wantDo(t, tree, "f /z; x /z; d /z; x /z; l /a /z; x /z", api.OK)
	}
	for _, name := range letters(24)[1:] {
		wantDo(t, tree, "f /"+name, api.OK)
	}
	wantDo(t, tree, "f /z", api.ErrFull)
}

// TestDeepNames (13.1): names of MaxDepth Parts, each with MaxName letters; there are none deeper.
func TestDeepNames(t *testing.T) {
	for _, name := range []string{"a", "wxyz"} {
		seven := strings.Repeat("/"+name, 7)
		for _, last := range []string{"d %s/z", "f %s/z", "f /f; l /f %s/z", "f /f; m /f %s/z", "d /d; m /d %s/z"} {
			tree := made(t, chain(name, 7)+";"+strings.ReplaceAll(last, "%s", seven))
			wantList(t, last, tree, seven, []string{"z"}, api.OK)
			wantDo(t, tree, strings.ReplaceAll("d %s/z/z; f %s/z/z; x %s/z/z; m %s/z/z /z; l %s/z/z /z", "%s", seven), api.ErrFull)
			wantList(t, last, tree, seven+"/z/z", nil, api.ErrFull)
			wantNames(t, last, tree, seven+"/z/z", 0, api.ErrFull)
			wantDo(t, tree, "x "+seven+"/z; x "+seven, api.OK)
		}
	}
	wantTree(t, made(t, chain("a", 8)), "/a/ /a/a/ /a/a/a/ /a/a/a/a/ /a/a/a/a/a/ /a/a/a/a/a/a/ /a/a/a/a/a/a/a/ /a/a/a/a/a/a/a/a/")
}

// TestLink (13.1): one more name of a file, and of one by a name that was linked, in one directory and in others.
func TestLink(t *testing.T) {
	tree := made(t, "f /a; l /a /b")
	wantMany(t, tree, "/a 2 /b 2")
	wantDo(t, tree, "l /b /c; d /d; l /c /d/a; f /e", api.OK)
	wantTree(t, tree, "/a /b /c /d/ /d/a /e")
	wantMany(t, tree, "/a 4 /b 4 /c 4 /d 0 /d/a 4 /e 1 / 0")
	wantDo(t, tree, "d /d/d; l /d/a /d/d/e; l /e /d/e; l /d/e /d/d/a", api.OK)
	wantMany(t, tree, "/a 5 /b 5 /c 5 /d/a 5 /d/d/e 5 /e 3 /d/e 3 /d/d/a 3 /d/d 0")
}

// TestLinkDropped (13.1): a file stays while it has a name, whichever was its first one; one that is made anew by a name
// that was dropped is another one.
func TestLinkDropped(t *testing.T) {
	tree := made(t, "f /a; l /a /b; x /a")
	wantTree(t, tree, "/b")
	wantMany(t, tree, "/b 1")
	wantDo(t, tree, "l /a /c", api.ErrNone)
	wantDo(t, tree, "l /b /c; f /a", api.OK)
	wantMany(t, tree, "/a 1 /b 2 /c 2")
	wantDo(t, tree, "x /b; x /c; f /b", api.OK)
	wantMany(t, tree, "/a 1 /b 1")
	wantDo(t, tree, "x /a; d /a; l /b /a/b", api.OK)
	wantMany(t, tree, "/a 0 /b 2 /a/b 2")
}

// TestLinkErrors (13.1): a directory, the root, what is not there, and a name that is.
func TestLinkErrors(t *testing.T) {
	tree := some(t)
	wantDo(t, tree, "l /d /x; l /h /x; l /d/e /x; l / /x; l /d/.. /x; l /g/x /y; l /g /g/x; l /g /d/f/x; l /g /g/x/y", api.ErrShape)
	wantDo(t, tree, "l /x /y; l /d/x /y; l /x/y /z; l /h/x /y; l /g /x/y; l /g /d/x/y; l /e /x", api.ErrNone)
	wantDo(t, tree, "l /g /g; l /g /d; l /g /d/f; l /g /h; l /d/f /d/e/f; l /d/f /d/f; l /g /g/; l /g /x/../g", api.ErrClash)
	wantDo(t, tree, "l /g /; l /g /g/..; l /g /.", api.ErrState)
	wantDo(t, tree, "l g /x; l /g x; l /g /X; l /G /x; l /g", api.ErrSyntax)
	wantDo(t, tree, "l /g /a/b/c/d/e/f/g/h/i; l /a/b/c/d/e/f/g/h/i /x", api.ErrFull)
}

// TestLinkFirstWrong (13.1, P3): what is wrong with old is told ahead of what is wrong with name.
func TestLinkFirstWrong(t *testing.T) {
	olds := map[string]api.Errno{
		"a": api.ErrSyntax, strings.Repeat("/", 61): api.ErrFull, strings.Repeat("/d", 9): api.ErrFull, "/x": api.ErrNone,
		"/x/y": api.ErrNone, "/g/x": api.ErrShape, "/d": api.ErrShape, "/": api.ErrShape, "/h": api.ErrShape,
	}
	names := []string{"", "/...", strings.Repeat("/", 61), strings.Repeat("/d", 9), "/", "/x/y", "/g/x", "/g", "/d", "/d/f"}
	for old, no := range olds {
		for _, name := range names {
			wantStep(t, some(t), step{"l", old, name}, no)
		}
	}
}

// TestDrop (13.1): a file, one name of several, and a directory that is empty, or was emptied.
func TestDrop(t *testing.T) {
	tree := made(t, "f /a; l /a /b; d /d; l /a /d/a; d /d/e; d /e")
	wantDo(t, tree, "x /d", api.ErrState)
	wantDo(t, tree, "x /a", api.OK)
	wantTree(t, tree, "/b /d/ /d/a /d/e/ /e/")
	wantMany(t, tree, "/b 2 /d/a 2")
	wantDo(t, tree, "x /a", api.ErrNone)
	wantDo(t, tree, "x /d/a; x /e", api.OK)
	wantTree(t, tree, "/b /d/ /d/e/")
	wantDo(t, tree, "x /d", api.ErrState)
	wantDo(t, tree, "x /d/e; x /d; x /b", api.OK)
	wantTree(t, tree, "")
	wantDo(t, tree, "x /b; x /d; x /d/e; x /e", api.ErrNone)
	wantDo(t, tree, "f /d; d /b; f /b/a", api.OK)
	wantTree(t, tree, "/b/ /b/a /d")
}

// TestDropErrors (13.1): the root, full or empty, what is not there, and directories that are not empty.
func TestDropErrors(t *testing.T) {
	for _, s := range rootTexts() {
		wantStep(t, New(), step{"x", s, ""}, api.ErrState)
		wantStep(t, some(t), step{"x", s, ""}, api.ErrState)
	}
	tree := some(t)
	wantDo(t, tree, "x /d; x /d/e; x /d/; x /d/e/.; x /d/f/..; x /h/../d", api.ErrState)
	wantDo(t, tree, "x /x; x /d/x; x /x/y; x /h/x; x /d/e/x; x /d/x/y; x /e; x /d/g", api.ErrNone)
	wantDo(t, tree, "x /g/x; x /g/g; x /d/f/x; x /g/x/y", api.ErrShape)
	wantDo(t, tree, "x g; x /G; x; x /...; x /d/abcde", api.ErrSyntax)
	wantDo(t, tree, "x /a/b/c/d/e/f/g/h/i", api.ErrFull)
	deep := made(t, chain("a", 8))
	for i := 1; i <= 7; i++ {
		wantDo(t, deep, "x "+strings.Repeat("/a", i), api.ErrState)
	}
	for i := 8; i >= 1; i-- {
		wantDo(t, deep, "x "+strings.Repeat("/a", i), api.OK)
	}
}

// TestDropOneOfMany (13.1): of many names in a directory the one that is dropped alone is gone.
func TestDropOneOfMany(t *testing.T) {
	for i, gone := range letters(20) {
		tree := made(t, "d /x; f /x/f")
		for _, name := range letters(20) {
			wantDo(t, tree, fmt.Sprintf("l /x/f /x/%s%s", name, name), api.OK)
		}
		wantDo(t, tree, "x /x/"+gone+gone, api.OK)
		wantMany(t, tree, "/x/f 20 /x 0")
		names, _ := tree.List("/x")
		if len(names) != 20 {
			t.Errorf("without name %d: %q", i, names)
		}
		wantNames(t, "gone", tree, "/x/"+gone+gone, 0, api.ErrNone)
	}
}
