package tree

import (
	"reflect"
	"slices"
	"strings"
	"testing"

	"platterhold/api"
)

// TestList (13.2): an empty directory, the root, a file, and names that were put in in any order.
func TestList(t *testing.T) {
	tree := made(t, "d /d; f /f; d /d/e; f /d/f; f /d/e/g")
	wantList(t, "root", tree, "/", []string{"d", "f"}, api.OK)
	wantList(t, "one", tree, "/d", []string{"e", "f"}, api.OK)
	wantList(t, "one below", tree, "/d/e", []string{"g"}, api.OK)
	wantList(t, "a file", tree, "/f", nil, api.ErrShape)
	wantList(t, "a file below", tree, "/d/e/g", nil, api.ErrShape)
	wantDo(t, tree, "x /d/e/g", api.OK)
	wantList(t, "emptied", tree, "/d/e", nil, api.OK)
}

// TestListRises (13.2): byte by byte, files and directories alike, whichever came first.
func TestListRises(t *testing.T) {
	names := []string{"a", "aa", "ab", "abc", "abcd", "abd", "b", "ba", "bz", "m", "mm", "yzzz", "z", "za", "zz", "zzzz"}
	for by := 1; by < 16; by += 2 {
		tree := made(t, "d /d")
		for i := range names {
			name := names[(i*by+by/3)%16]
			wantDo(t, tree, string("df"[i%2])+" /d/"+name, api.OK)
		}
		wantList(t, "in any order", tree, "/d", names, api.OK)
	}
}

// TestListBehindChanges (13.2): what is listed is what is there now.
func TestListBehindChanges(t *testing.T) {
	tree := made(t, "d /d; f /d/b")
	wantDo(t, tree, "l /d/b /d/a; d /d/c; m /d/b /d/z", api.OK)
	wantList(t, "behind Link, Dir and Move", tree, "/d", []string{"a", "c", "z"}, api.OK)
	wantDo(t, tree, "x /d/a; m /d/c /c; m /d /c/d", api.OK)
	wantList(t, "behind Drop and Move", tree, "/c/d", []string{"z"}, api.OK)
	wantList(t, "moved", tree, "/d", nil, api.ErrNone)
	wantList(t, "root", tree, "/", []string{"c"}, api.OK)
}

// TestNames (13.2): one, two and many names, up to MaxNodes, in one and in two directories.
func TestNames(t *testing.T) {
	tree := made(t, "f /a; d /d; f /d/o")
	wantMany(t, tree, "/a 1 /d 0 /d/o 1 / 0")
	wantDo(t, tree, "l /a /d/a", api.OK)
	wantMany(t, tree, "/a 2 /d/a 2 /d 0 /d/o 1 / 0")
	for many := 3; many <= 22; many++ {
		name := letters(26)[many]
		dir := []string{"/", "/d/z"}[many%2]
		wantDo(t, tree, "l /d/a "+dir+name, api.OK)
		wantNames(t, "many", tree, dir+name, many, api.OK)
		wantNames(t, "many", tree, "/a", many, api.OK)
		wantNames(t, "many", tree, "/d/a", many, api.OK)
		wantMany(t, tree, "/d 0 /d/o 1 / 0")
	}
	wantDo(t, tree, "l /a /z", api.ErrFull)
	wantMany(t, tree, "/a 22 /d/a 22")
}

// TestNamesBehindChanges (13.2): behind Link, Drop and Move, also where the directory is moved.
func TestNamesBehindChanges(t *testing.T) {
	tree := made(t, "f /a; d /d; l /a /d/a; l /a /d/b; f /o; l /o /d/o")
	wantMany(t, tree, "/a 3 /d/a 3 /d/b 3 /o 2 /d/o 2 /d 0")
	wantDo(t, tree, "x /a", api.OK)
	wantMany(t, tree, "/d/a 2 /d/b 2 /o 2 /d/o 2")
	wantDo(t, tree, "m /d/a /c; m /d /e", api.OK)
	wantMany(t, tree, "/c 2 /e/b 2 /o 2 /e/o 2 /e 0")
	wantDo(t, tree, "x /c", api.OK)
	wantMany(t, tree, "/e/b 1 /o 2 /e/o 2")
	wantDo(t, tree, "x /e/b; f /e/b; x /e/o; f /e/o", api.OK)
	wantMany(t, tree, "/e/b 1 /o 1 /e/o 1")
	wantNames(t, "dropped", tree, "/c", 0, api.ErrNone)
	wantNames(t, "moved", tree, "/d", 0, api.ErrNone)
}

// TestWalk (13.2): files and directories at each depth, each directory ahead of what is in it.
func TestWalk(t *testing.T) {
	tree := New()
	var want []string
	for deep := 1; deep <= 8; deep++ {
		ahead := strings.Repeat("/m", deep-1)
		wantDo(t, tree, "f "+ahead+"/z; d "+ahead+"/m; f "+ahead+"/a", api.OK)
		want = append(want, ahead+"/a", ahead+"/z", ahead+"/m/")
		slices.Sort(want)
		wantWalk(t, "so deep", tree, want)
	}
	wantTree(t, made(t, "d /a; f /a/b; f /c"), "/a/ /a/b /c")
}

// TestWalkByBytes (13.2): a / is less than each letter, so that what is in a directory stands ahead of names that the
// directory's begins; a file's name stands ahead of those that it begins.
func TestWalkByBytes(t *testing.T) {
	tree := made(t, "d /ab; f /ab/z; d /a; f /a/zzzz; d /abc; f /aba; d /a/b; f /a/b/a; f /a/bb; f /a/ba")
	wantTree(t, tree, "/a/ /a/b/ /a/b/a /a/ba /a/bb /a/zzzz /ab/ /ab/z /aba /abc/")
	wantTree(t, made(t, "f /ab; f /a; d /aa; f /aa/a; f /b; d /ba; f /aaa"), "/a /aa/ /aa/a /aaa /ab /b /ba/")
	wantTree(t, made(t, "d /zz; f /z; d /zzz; f /zz/a; f /zz/zz; f /zzza"), "/z /zz/ /zz/a /zz/zz /zzz/ /zzza")
}

// TestWalkBehindChanges (13.2): behind each kind of change.
func TestWalkBehindChanges(t *testing.T) {
	tree := New()
	for _, c := range [][2]string{
		{"d /b", "/b/"}, {"f /a", "/a /b/"}, {"l /a /b/c", "/a /b/ /b/c"}, {"x /a", "/b/ /b/c"}, {"m /b/c /c", "/b/ /c"},
		{"m /b /d", "/c /d/"}, {"f /d/e", "/c /d/ /d/e"}, {"m /d /a", "/a/ /a/e /c"}, {"x /a/e", "/a/ /c"}, {"x /a", "/c"},
		{"d /a", "/a/ /c"}, {"m /c /a/c", "/a/ /a/c"}, {"l /a/c /c", "/a/ /a/c /c"}, {"x /a/c", "/a/ /c"}, {"x /c", "/a/"},
		{"x /a", ""},
	} {
		wantDo(t, tree, c[0], api.OK)
		wantTree(t, tree, c[1])
	}
}

// TestErrorsChangeNothing (13.1, 13.2, P1): behind calls of each kind and each error the tree is as it was, and later
// calls do as if these had never been.
func TestErrorsChangeNothing(t *testing.T) {
	tree := some(t)
	was := stateOf(tree)
	paths := append(tree.Walk(), "/", "", "/x", "/x/y", "/g/x", "/d/x/y", "/A", strings.Repeat("/", 61), strings.Repeat("/d", 9))
	told := 0
	for _, kind := range []string{"d", "f", "l", "x", "m"} {
		for _, a := range paths {
			for _, b := range paths {
				s := step{kind, a, b}
				if s.on(some(t)) != nil {
					s.on(tree)
					told++
				}
				if now := stateOf(tree); now != was {
					t.Fatalf("%s: the tree was\n%sand is\n%s", s, was, now)
				}
			}
		}
	}
	if told < 500 {
		t.Errorf("%d errors only", told)
	}
	wantDo(t, tree, "d /x; f /x/y; m /d /x/d; l /g /x/d/e/g; x /g", api.OK)
	wantTree(t, tree, "/h/ /x/ /x/d/ /x/d/e/ /x/d/e/f /x/d/e/g /x/d/f /x/y")
	wantMany(t, tree, "/x/d/e/f 1 /x/d/e/g 1 /x/d/f 1 /x/y 1")
}

// TestAskingChangesNothing (13.2, P2): List, Names and Walk.
func TestAskingChangesNothing(t *testing.T) {
	tree := some(t)
	was := stateOf(tree)
	for range 3 {
		for _, s := range []string{"/", "/d", "/g", "/x", "/g/x", "x", "/d/e", "/d/e/f", "/h"} {
			tree.List(s)
			tree.Names(s)
			tree.Walk()
			if now := stateOf(tree); now != was {
				t.Fatalf("%q: the tree was\n%sand is\n%s", s, was, now)
			}
		}
	}
}

// overwrite writes into a list, also behind its length.
func overwrite(l []string) {
	l = l[:cap(l)]
	for i := range l {
		l[i] = "no"
	}
}

// TestListsAreOnesOwn (13.2, P2): writing into lists that came out changes neither the tree nor another list.
func TestListsAreOnesOwn(t *testing.T) {
	tree := some(t)
	was := stateOf(tree)
	root, again := must(tree.List("/")), must(tree.List("/"))
	dir, all, allAgain := must(tree.List("/d")), tree.Walk(), tree.Walk()
	overwrite(root)
	overwrite(all)
	if now := stateOf(tree); now != was {
		t.Errorf("the tree was\n%sand is\n%s", was, now)
	}
	if !slices.Equal(again, []string{"d", "g", "h"}) || !slices.Equal(dir, []string{"e", "f"}) {
		t.Errorf("other lists are %q and %q", again, dir)
	}
	if want := strings.Fields("/d/ /d/e/ /d/e/f /d/f /g /h/"); !slices.Equal(allAgain, want) {
		t.Errorf("another walk is %q", allAgain)
	}
	wantDo(t, tree, "x /g; f /a; m /d/f /h/f", api.OK)
	if !slices.Equal(again, []string{"d", "g", "h"}) || !slices.Equal(dir, []string{"e", "f"}) {
		t.Errorf("behind changes lists that came out ahead of them are %q and %q", again, dir)
	}
}

// must is a list with which no error came.
func must(l []string, err error) []string {
	if err != nil {
		panic(err)
	}
	return l
}

// isWithin tells whether a text that is not empty lies in the memory of another one.
func isWithin(s, all string) bool {
	from, at := reflect.ValueOf(all).Pointer(), reflect.ValueOf(s).Pointer()
	return from <= at && at < from+uintptr(len(all))
}

// TestOwnMemory (13.1, 13.2, P2): what is listed lies elsewhere than the paths that were handed in.
func TestOwnMemory(t *testing.T) {
	tree := New()
	var given []string
	for _, line := range []string{"d /dir", "f /file", "l /file /link", "f /old", "m /old /to"} {
		s := stepOf(strings.Clone(line))
		given = append(given, s.a, s.b)
		wantStep(t, tree, s, api.OK)
	}
	for _, name := range append(must(tree.List("/")), tree.Walk()...) {
		for _, s := range given {
			if s != "" && isWithin(name, s) {
				t.Errorf("%q lies in %q, which was handed in", name, s)
			}
		}
	}
}

// TestTwoTrees (13.1, 13.2, P2): what is done to one tree is not to be seen in another one.
func TestTwoTrees(t *testing.T) {
	one, two := New(), New()
	wantDo(t, one, "d /a; f /a/b; f /c", api.OK)
	wantTree(t, two, "")
	wantDo(t, two, "x /c; m /a /b; l /c /d", api.ErrNone)
	wantDo(t, two, "f /a; l /a /c; d /b; m /a /b/a", api.OK)
	wantTree(t, one, "/a/ /a/b /c")
	wantMany(t, one, "/a 0 /a/b 1 /c 1")
	wantMany(t, two, "/b 0 /b/a 2 /c 2")
	for _, name := range letters(26)[3:24] {
		wantDo(t, one, "f /"+name, api.OK)
	}
	wantDo(t, one, "f /z", api.ErrFull)
	wantDo(t, two, "f /z", api.OK)
	wantTree(t, two, "/b/ /b/a /c /z")
	wantTree(t, New(), "")
}
