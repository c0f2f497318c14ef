package tree

import (
	"fmt"
	"strings"
	"testing"

	"platterhold/api"
)

// TestMoveFile (13.2): within a directory, to another one, up, down, and there and back.
func TestMoveFile(t *testing.T) {
	tree := made(t, "f /a; d /d; d /d/e; m /a /b")
	wantTree(t, tree, "/b /d/ /d/e/")
	wantDo(t, tree, "m /b /d/b", api.OK)
	wantTree(t, tree, "/d/ /d/b /d/e/")
	wantDo(t, tree, "m /d/b /d/e/a", api.OK)
	wantTree(t, tree, "/d/ /d/e/ /d/e/a")
	wantMany(t, tree, "/d/e/a 1")
	wantDo(t, tree, "m /d/e/a /d/c; m /d/c /a", api.OK)
	wantTree(t, tree, "/a /d/ /d/e/")
	wantDo(t, tree, "x /d/e; x /d; m /a /d; m /d /a", api.OK)
	wantTree(t, tree, "/a")
}

// TestMoveDir (13.2): all that is below it goes with it, at each depth.
func TestMoveDir(t *testing.T) {
	tree := made(t, "d /a; f /a/f; d /a/b; f /a/b/c; d /a/b/d; d /e; f /g")
	was := stateOf(tree)
	wantDo(t, tree, "m /a /z", api.OK)
	wantTree(t, tree, "/e/ /g /z/ /z/b/ /z/b/c /z/b/d/ /z/f")
	wantDo(t, tree, "m /z /e/a", api.OK)
	wantTree(t, tree, "/e/ /e/a/ /e/a/b/ /e/a/b/c /e/a/b/d/ /e/a/f /g")
	wantDo(t, tree, "m /e/a/b /e/b", api.OK)
	wantTree(t, tree, "/e/ /e/a/ /e/a/f /e/b/ /e/b/c /e/b/d/ /g")
	wantDo(t, tree, "f /e/b/d/x; m /e/b/d /d; m /d /e/a/d; x /e/a/d/x", api.OK)
	wantTree(t, tree, "/e/ /e/a/ /e/a/d/ /e/a/f /e/b/ /e/b/c /g")
	wantDo(t, tree, "m /e/a/d /e/b/d; m /e/b /e/a/b; m /e/a /a", api.OK)
	if now := stateOf(tree); now != was {
		t.Errorf("there and back: it was\n%sand is\n%s", was, now)
	}
}

// TestMoveEmptied (13.2): a directory out of which all was moved is empty, and one into which something was is not.
func TestMoveEmptied(t *testing.T) {
	tree := made(t, "d /a; d /b; f /a/f; d /a/d")
	wantDo(t, tree, "x /a", api.ErrState)
	wantDo(t, tree, "m /a/f /b/f; m /a/d /b/d", api.OK)
	wantDo(t, tree, "x /b", api.ErrState)
	wantDo(t, tree, "x /a", api.OK)
	wantTree(t, tree, "/b/ /b/d/ /b/f")
}

// TestMoveLinked (13.2): of a file with several names the one that is moved alone is another one.
func TestMoveLinked(t *testing.T) {
	tree := made(t, "f /a; l /a /b; d /d; l /a /d/a; f /o; m /a /d/b")
	wantTree(t, tree, "/b /d/ /d/a /d/b /o")
	wantMany(t, tree, "/b 3 /d/a 3 /d/b 3 /o 1")
	wantDo(t, tree, "m /b /d/a; m /b /d/b; m /d/b /b; m /b /b", api.ErrClash)
	wantDo(t, tree, "m /d /e; m /e/a /a; x /e/b", api.OK)
	wantTree(t, tree, "/a /b /e/ /o")
	wantMany(t, tree, "/a 2 /b 2 /e 0 /o 1")
	wantDo(t, tree, "m /o /e/o; l /e/o /o; m /b /e/b", api.OK)
	wantMany(t, tree, "/a 2 /e/b 2 /o 2 /e/o 2")
}

// TestMoveErrors (13.2): each kind of error, of old and of to.
func TestMoveErrors(t *testing.T) {
	tree := some(t)
	wantDo(t, tree, "m / /x; m /d/.. /x; m /g /; m /d /; m /g /d/..; m // /h/x", api.ErrState)
	wantDo(t, tree, "m /x /y; m /d/x /y; m /x/y /z; m /h/x /y; m /g /x/y; m /d /x/y; m /g /d/x/y; m /h /h/x/y", api.ErrNone)
	wantDo(t, tree, "m /g/x /y; m /d/f/x /y; m /g/x/y /z; m /h /g/x; m /d /g/x; m /g /g/x; m /g /d/f/x; m /g /g/x/y", api.ErrShape)
	wantDo(t, tree, "m g /x; m /g x; m /G /x; m /g /X; m /g; m /d /d/...", api.ErrSyntax)
	wantDo(t, tree, "m /g /a/b/c/d/e/f/g/h/i; m /a/b/c/d/e/f/g/h/i /x; m /d /d/d/d/d/d/d/d/d/d", api.ErrFull)
}

// TestMoveClash (13.2): to a name that is there, as a file or a directory, empty or not, and to itself.
func TestMoveClash(t *testing.T) {
	tree := some(t)
	for _, old := range []string{"/d", "/d/e", "/d/e/f", "/d/f", "/g", "/h"} {
		for _, to := range []string{"/d", "/d/e", "/d/e/f", "/d/f", "/g", "/h"} {
			wantStep(t, tree, step{"m", old, to}, api.ErrClash)
		}
		wantStep(t, tree, step{"m", old, old + "/"}, api.ErrClash)
		wantStep(t, tree, step{"m", old + "/.", "/x/.." + old}, api.ErrClash)
		wantStep(t, tree, step{"m", old, old + "/z/.."}, api.ErrClash)
	}
}

// TestMoveBelow (13.2): a directory into itself, one and several below it, and into one beside it.
func TestMoveBelow(t *testing.T) {
	tree := made(t, "d /a; d /a/b; d /a/b/c; d /a/b/c/d; d /ab; d /a/bc; d /b; d /b/a")
	wantDo(t, tree, "m /a /a/x; m /a /a/a; m /a /a/b/x; m /a /a/b/c/x; m /a /a/b/c/d/x; m /a/b /a/b/x; m /a/b/c /a/b/c/d/x", api.ErrState)
	wantDo(t, tree, "m /a /x/../a/x; m /a/. /a/b/../x; m /a/b/c/d /a/b/c/d/x; m /b /b/b; m /b/a /b/a/a", api.ErrState)
	wantDo(t, tree, "m /a /ab/a", api.OK)
	wantTree(t, tree, "/ab/ /ab/a/ /ab/a/b/ /ab/a/b/c/ /ab/a/b/c/d/ /ab/a/bc/ /b/ /b/a/")
	wantDo(t, tree, "m /ab/a/b /ab/a/bc/b; m /ab /b/a/ab", api.OK)
	wantTree(t, tree, "/b/ /b/a/ /b/a/ab/ /b/a/ab/a/ /b/a/ab/a/bc/ /b/a/ab/a/bc/b/ /b/a/ab/a/bc/b/c/ /b/a/ab/a/bc/b/c/d/")
	wantDo(t, tree, "m /b /b/x; m /b /b/a/ab/a/bc/b/c/x; m /b/a/ab /b/a/ab/a/ab", api.ErrState)
	wantDo(t, tree, "m /b/a/ab /b/ab; m /b/ab /ab", api.OK)
	wantTree(t, tree, "/ab/ /ab/a/ /ab/a/bc/ /ab/a/bc/b/ /ab/a/bc/b/c/ /ab/a/bc/b/c/d/ /b/ /b/a/")
}

// TestMoveFileBeside (13.2): a file goes into each directory, also into its own, and one whose name begins alike.
func TestMoveFileBeside(t *testing.T) {
	tree := made(t, "f /a; d /ab; d /b; m /a /ab/a; m /ab/a /ab/b; m /ab/b /b/ab; m /b/ab /abc")
	wantTree(t, tree, "/ab/ /abc /b/")
}

// TestMoveDeep (13.2): where the names below it would stand at MaxDepth, and one deeper.
func TestMoveDeep(t *testing.T) {
	for goal := 1; goal <= 8; goal++ {
		for below := 0; below <= 7; below++ {
			tree := made(t, chain("m", below+1))
			if goal > 1 {
				wantDo(t, tree, chain("g", goal-1), api.OK)
			}
			want := api.OK
			if goal+below > 8 {
				want = api.ErrFull
			}
			to := strings.Repeat("/g", goal-1) + "/to"
			wantStep(t, tree, step{"m", "/m", to}, want)
			if want == api.OK {
				wantList(t, to, tree, to+strings.Repeat("/m", below), nil, api.OK)
				wantNames(t, to, tree, "/m", 0, api.ErrNone)
			}
		}
	}
}

// TestMoveDeepOneOfSeveral (13.2): one name of several would stand too deep, a file's or a directory's.
func TestMoveDeepOneOfSeveral(t *testing.T) {
	goal := strings.Repeat("/g", 5) + "/to"
	for _, deep := range []string{"f /m/%s/x/y", "d /m/%s/x/y", "f /f; l /f /m/%s/x/y"} {
		for _, name := range []string{"a", "c", "z"} {
			tree := made(t, chain("g", 5)+"; d /m; f /m/b; d /m/d; f /m/d/d; f /m/y")
			wantDo(t, tree, fmt.Sprintf("d /m/%s; d /m/%s/x", name, name), api.OK)
			wantDo(t, tree, "m /m "+goal+"; m "+goal+" /m", api.OK)
			wantDo(t, tree, strings.ReplaceAll(deep, "%s", name), api.OK)
			wantDo(t, tree, "m /m "+goal, api.ErrFull)
			wantDo(t, tree, "x /m/"+name+"/x/y; m /m "+goal, api.OK)
		}
	}
}

// TestMoveDeepFile (13.2): what has nothing below it goes as deep as there are names.
func TestMoveDeepFile(t *testing.T) {
	seven := strings.Repeat("/g", 7)
	tree := made(t, chain("g", 7)+"; f /f; d /d; d /e; f /e/f")
	wantDo(t, tree, "m /e "+seven+"/e", api.ErrFull)
	wantDo(t, tree, "m /f "+seven+"/f; m /d "+seven+"/d; x /e/f; m /e "+seven+"/e", api.OK)
	wantList(t, "deep", tree, seven, []string{"d", "e", "f"}, api.OK)
	wantDo(t, tree, "m /g /gg; m /gg/g/g /g", api.OK)
	wantList(t, "less deep", tree, "/g/g/g/g/g", []string{"d", "e", "f"}, api.OK)
	wantDo(t, tree, "m /g /gg/g/g", api.OK)
	wantDo(t, tree, "f /gg/g/z; d /gg/g/x; d /gg/g/x/x", api.OK)
	wantDo(t, tree, "m /gg/g/g /gg/g/x/g", api.ErrFull)
}

// TestMoveFirstWrong (13.2, P3): which error is told, where two apply.
func TestMoveFirstWrong(t *testing.T) {
	olds := map[string]api.Errno{
		"a": api.ErrSyntax, strings.Repeat("/", 61): api.ErrFull, strings.Repeat("/d", 9): api.ErrFull, "/": api.ErrState,
		"/x": api.ErrNone, "/x/y": api.ErrNone, "/d/x": api.ErrNone, "/g/x": api.ErrShape, "/d/f/x/y": api.ErrShape,
	}
	tos := []string{"", "/...", strings.Repeat("/", 61), strings.Repeat("/d", 9), "/", "/x/y", "/g/x", "/g", "/d", "/d/f"}
	for old, no := range olds {
		for _, to := range tos {
			wantStep(t, some(t), step{"m", old, to}, no)
		}
	}
	tree := made(t, chain("a", 8))
	wantDo(t, tree, "m /a /a/a; m /a /a/a/a; m /a/a /a/a/a; m /a /a/a/a/a/a/a/a/a; m /a/a/a /a", api.ErrClash)
	wantDo(t, tree, "m /a /a/b; m /a /a/a/b; m /a/a /a/a/a/b; m /a /a/a/a/a/a/a/a/b", api.ErrState)
	wantDo(t, tree, "m /a/a /a/b/..; m /a/a /a", api.ErrClash)
	wantDo(t, tree, "d /b; d /b/a", api.OK)
	wantDo(t, tree, "m /a /b/a; m /a /b", api.ErrClash)
	wantDo(t, tree, "m /a /b/b; m /a /b/a/b", api.ErrFull)
	wantDo(t, tree, "m /a /b/c/b; m /a /a/b/b", api.ErrNone)
}
