package tree

import (
	"fmt"
	"slices"
	"strings"
	"testing"

	"platterhold/api"
	"platterhold/path"
	"platterhold/plain"
)

// texts are a tree in another way than the program's: the clean paths of all names, and what they name: 0 is a
// directory, and each file has a number of its own. The root's path is empty here, and stands in no list.
type texts struct {
	named map[string]int
	files int
}

// noTexts is the tree that New makes.
func noTexts() *texts { return &texts{named: map[string]int{}} }

// has tells whether a clean path is there.
func (m *texts) has(clean string) bool {
	_, there := m.named[clean]
	return there || clean == ""
}

// above is the path of the directory in which a clean one's last name stands.
func above(clean string) string { return clean[:strings.LastIndex(clean, "/")] }

// cleaned is a path without the root's /.
func cleaned(s string) (string, api.Errno) {
	clean, err := path.Clean(s)
	return strings.TrimSuffix(clean, "/"), plain.Told(err)
}

// at is the clean path of what is there.
func (m *texts) at(s string) (string, api.Errno) {
	clean, no := cleaned(s)
	if no != api.OK || clean == "" {
		return "", no
	}
	if _, no := m.at(above(clean) + "/"); no != api.OK {
		return "", no
	}
	if m.named[above(clean)] != 0 {
		return "", api.ErrShape
	}
	if !m.has(clean) {
		return "", api.ErrNone
	}
	return clean, api.OK
}

// spot is the clean path of a name that may be put there.
func (m *texts) spot(s string) (string, api.Errno) {
	clean, no := cleaned(s)
	if no != api.OK {
		return "", no
	}
	if clean == "" {
		return "", api.ErrState
	}
	dir, no := m.at(above(clean) + "/")
	if no != api.OK {
		return "", no
	}
	if m.named[dir] != 0 {
		return "", api.ErrShape
	}
	return clean, api.OK
}

// put lets a path name what has that number.
func (m *texts) put(s string, what int) api.Errno {
	clean, no := m.spot(s)
	switch {
	case no != api.OK:
		return no
	case m.has(clean):
		return api.ErrClash
	case len(m.named) == 24:
		return api.ErrFull
	}
	m.named[clean] = what
	m.files = max(m.files, what)
	return api.OK
}

// link is Link.
func (m *texts) link(old, name string) api.Errno {
	clean, no := m.at(old)
	if no != api.OK {
		return no
	}
	if m.named[clean] == 0 {
		return api.ErrShape
	}
	return m.put(name, m.named[clean])
}

// drop is Drop.
func (m *texts) drop(s string) api.Errno {
	clean, no := m.spot(s)
	if no != api.OK {
		return no
	}
	if !m.has(clean) {
		return api.ErrNone
	}
	if len(m.below(clean)) > 0 {
		return api.ErrState
	}
	delete(m.named, clean)
	return api.OK
}

// below are all paths below a directory's.
func (m *texts) below(clean string) []string {
	var found []string
	for one := range m.named {
		if strings.HasPrefix(one, clean+"/") {
			found = append(found, one)
		}
	}
	slices.Sort(found)
	return found
}

// move is Move.
func (m *texts) move(old, to string) api.Errno {
	from, no := m.spot(old)
	if no != api.OK {
		return no
	}
	if !m.has(from) {
		return api.ErrNone
	}
	goal, no := m.spot(to)
	switch {
	case no != api.OK:
		return no
	case m.has(goal):
		return api.ErrClash
	case strings.HasPrefix(goal, from+"/"):
		return api.ErrState
	}
	moved := append(m.below(from), from)
	for _, one := range moved {
		if strings.Count(goal+strings.TrimPrefix(one, from), "/") > 8 {
			return api.ErrFull
		}
	}
	for _, one := range moved {
		m.named[goal+strings.TrimPrefix(one, from)] = m.named[one]
		delete(m.named, one)
	}
	return api.OK
}

// list is List.
func (m *texts) list(s string) ([]string, api.Errno) {
	clean, no := m.at(s)
	if no != api.OK {
		return nil, no
	}
	if m.named[clean] != 0 {
		return nil, api.ErrShape
	}
	var names []string
	for _, one := range m.below(clean) {
		if above(one) == clean {
			names = append(names, strings.TrimPrefix(one, clean+"/"))
		}
	}
	slices.Sort(names)
	return names, api.OK
}

// names is Names.
func (m *texts) names(s string) (int, api.Errno) {
	clean, no := m.at(s)
	many := 0
	if no == api.OK && m.named[clean] != 0 {
		for _, what := range m.named {
			if what == m.named[clean] {
				many++
			}
		}
	}
	return many, no
}

// walk is Walk.
func (m *texts) walk() []string {
	var all []string
	for one, what := range m.named {
		if what == 0 {
			one += "/"
		}
		all = append(all, one)
	}
	slices.Sort(all)
	return all
}

// step is a call that changes a tree: d is Dir, f File, l Link, x Drop, m Move.
type step struct{ kind, a, b string }

// stepOf reads a step's words, with blanks between.
func stepOf(line string) step {
	words := append(strings.Fields(line), "", "")
	return step{words[0], words[1], words[2]}
}

// String shows a step, with long texts cut off.
func (s step) String() string { return fmt.Sprintf("%s %.70q %.70q", s.kind, s.a, s.b) }

// on does the step on a tree.
func (s step) on(tree *Tree) error {
	switch s.kind {
	case "d":
		return tree.Dir(s.a)
	case "f":
		return tree.File(s.a)
	case "l":
		return tree.Link(s.a, s.b)
	case "x":
		return tree.Drop(s.a)
	case "m":
		return tree.Move(s.a, s.b)
	}
	panic("no such step: " + s.kind)
}

// onTexts does the step on a tree of texts.
func (s step) onTexts(m *texts) api.Errno {
	switch s.kind {
	case "d":
		return m.put(s.a, 0)
	case "f":
		return m.put(s.a, m.files+1)
	case "l":
		return m.link(s.a, s.b)
	case "x":
		return m.drop(s.a)
	case "m":
		return m.move(s.a, s.b)
	}
	panic("no such step: " + s.kind)
}

// wantSameAt asks a tree for what the texts tell of a path.
func wantSameAt(t *testing.T, what string, tree *Tree, m *texts, s string) (listed, counted api.Errno) {
	t.Helper()
	names, no := m.list(s)
	wantList(t, what, tree, s, names, no)
	many, noMany := m.names(s)
	wantNames(t, what, tree, s, many, noMany)
	return no, noMany
}

// wantSame asks a tree for all that the texts tell.
func wantSame(t *testing.T, what string, tree *Tree, m *texts) {
	t.Helper()
	wantWalk(t, what, tree, m.walk())
	for _, s := range append(m.walk(), "/") {
		wantSameAt(t, what, tree, m, s)
	}
}

// wantSameStep does a step on both, and asks for the same error and the same tree behind it.
func wantSameStep(t *testing.T, tree *Tree, m *texts, s step) api.Errno {
	t.Helper()
	no := s.onTexts(m)
	wantError(t, s.String(), s.on(tree), no)
	wantSame(t, s.String(), tree, m)
	return no
}

// shown is a tree of texts in a form that is the same for trees of which nobody could tell that they are two: files are
// numbered anew, as their paths rise.
func (m *texts) shown() string {
	var b strings.Builder
	numbers := map[int]int{}
	for _, one := range m.walk() {
		what := m.named[strings.TrimSuffix(one, "/")]
		if _, there := numbers[what]; !there {
			numbers[what] = len(numbers)
		}
		fmt.Fprint(&b, one, " ", numbers[what], " ")
	}
	return b.String()
}

// replayed are a tree and its texts behind steps.
func replayed(steps []step) (*Tree, *texts) {
	tree, m := New(), noTexts()
	for _, s := range steps {
		s.on(tree)
		s.onTexts(m)
	}
	return tree, m
}

// fewSteps are all steps over a few paths.
func fewSteps() []step {
	paths := []string{"/a", "/ab", "/a/a", "/a/b", "/ab/a"}
	var all []step
	for _, a := range paths {
		all = append(all, step{"d", a, ""}, step{"f", a, ""}, step{"x", a, ""})
		for _, b := range paths {
			all = append(all, step{"l", a, b}, step{"m", a, b})
		}
	}
	return all
}

// TestAllSmall (13.1, 13.2): each step over a few paths, on each tree to which a few such steps lead.
func TestAllSmall(t *testing.T) {
	const most = 500
	ways := [][]step{nil}
	seen := map[string]bool{"": true}
	for at := 0; at < len(ways); at++ {
		for _, s := range fewSteps() {
			tree, m := replayed(ways[at])
			no := wantSameStep(t, tree, m, s)
			if shown := m.shown(); no == api.OK && !seen[shown] && len(ways) < most {
				seen[shown] = true
				ways = append(ways, append(slices.Clone(ways[at]), s))
			}
		}
		if t.Failed() {
			t.Fatalf("behind %v", ways[at])
		}
	}
	if len(ways) < most {
		t.Errorf("%d trees only", len(ways))
	}
}

// mixer tells numbers in an order that looks mixed, and is the same each time.
type mixer uint32

// below is the next number, from 0 to top - 1.
func (m *mixer) below(top int) int {
	*m = *m*1664525 + 1013904223
	return int(*m>>16) % top
}

// of is the next one of some texts.
func (m *mixer) of(some []string) string { return some[m.below(len(some))] }

// there is the next path that is there, or the root's, if there is none; of some that it meets it takes the deepest.
func (m *mixer) there(all []string, tries int) string {
	deepest := ""
	for range tries {
		if len(all) > 0 {
			if s := strings.TrimSuffix(m.of(all), "/"); strings.Count(s, "/") > strings.Count(deepest, "/") {
				deepest = s
			}
		}
	}
	return deepest
}

// fresh is the next path that may not be there yet: of a name in a directory, in most cases.
func (m *mixer) fresh(now *texts) string {
	dirs := slices.DeleteFunc(now.walk(), func(s string) bool { return !strings.HasSuffix(s, "/") })
	s := m.there(dirs, m.below(4))
	for range 1 + m.below(8)/7 {
		s += m.of([]string{"/a", "/b", "/ab", "/abc", "/c", "/d", "/z"})
	}
	return s
}

// spoiled is a path that is not clean any more, or none, now and then.
func (m *mixer) spoiled(s string) string {
	switch m.below(60) {
	case 0, 1, 2, 3:
		return s + m.of([]string{"/..", "/.", "/", "//./", "/x/..", "/../..", "/z/../../b"})
	case 4:
		return s + m.of([]string{"/...", "/A", "/abcde", "a b", "\x00", "/é", strings.Repeat("/", 60), strings.Repeat("/c", 8)})
	case 5:
		return m.of([]string{"", "/", "//", "a", "a/b", "/..", ".", strings.Repeat("/./a/..", 9)})
	}
	return s
}

// path is the next one, of any kind.
func (m *mixer) path(now *texts) string {
	if m.below(2) == 0 {
		return m.spoiled(m.fresh(now))
	}
	return m.spoiled(m.there(now.walk(), 1))
}

// step is the next one, of some kinds; in most cases it names what is there, or is not, as it should.
func (m *mixer) step(now *texts, kinds string) step {
	kind := string(kinds[m.below(len(kinds))])
	if m.below(6) == 0 {
		return step{kind, m.path(now), m.path(now)}
	}
	there, fresh := m.spoiled(m.there(now.walk(), 1)), m.spoiled(m.fresh(now))
	if kind == "d" || kind == "f" {
		return step{kind, fresh, ""}
	}
	return step{kind, there, fresh}
}

// tally counts what was told by each kind of call, and edges of the whole that were met.
type tally struct {
	told map[string]*[8]int
	edge map[string]int
}

// newTally has nothing counted.
func newTally() tally {
	told := map[string]*[8]int{}
	for _, kind := range []string{"d", "f", "l", "x", "m", "List", "Names"} {
		told[kind] = &[8]int{}
	}
	return tally{told, map[string]int{}}
}

// isPath tells whether a text has Parts.
func isPath(s string) bool {
	_, err := path.Parts(s)
	return err == nil
}

// add counts what a step told.
func (c tally) add(s step, no api.Errno) {
	c.told[s.kind][no]++
	if no == api.ErrFull && isPath(s.a) && (isPath(s.b) || s.kind == "d" || s.kind == "f") {
		c.edge[s.kind+" where there is no more place"]++
	}
}

// play does many steps on a tree, which agrees with its texts behind each one.
func play(t *testing.T, mixed *mixer, kinds string, steps int, counted tally) {
	t.Helper()
	tree, m := New(), noTexts()
	for range steps {
		s := mixed.step(m, kinds)
		counted.add(s, wantSameStep(t, tree, m, s))
		listed, named := wantSameAt(t, "asked", tree, m, mixed.path(m))
		counted.told["List"][listed]++
		counted.told["Names"][named]++
		if t.Failed() {
			t.FailNow()
		}
	}
}

// TestPlays (13.1, 13.2, P1, P2, P3): whole plays, held against the texts, in which each call tells all that it may.
func TestPlays(t *testing.T) {
	mixed := mixer(13)
	counted := newTally()
	for range 20 {
		for _, kinds := range []string{"dflxm", "ddlmm", "dffllxmmm", "ddfxxm", "ddddxmmm"} {
			play(t, &mixed, kinds, 200, counted)
		}
	}
	for kind, may := range map[string]string{
		"d": "0234567", "f": "0234567", "l": "0234567", "x": "023457", "m": "0234567", "List": "02345", "Names": "02345",
	} {
		for no, many := range counted.told[kind] {
			if strings.Contains(may, fmt.Sprint(no)) != (many > 0) {
				t.Errorf("%s told %v %d times", kind, api.Errno(no), many)
			}
		}
	}
	for _, kind := range []string{"d", "f", "l", "m"} {
		if edge := kind + " where there is no more place"; counted.edge[edge] < 20 {
			t.Errorf("%s: %d times: the plays are too poor", edge, counted.edge[edge])
		}
	}
}

// TestPlaysBesideEachOther (13.1, 13.2, P2): two trees are played in turns, each as if it were alone.
func TestPlaysBesideEachOther(t *testing.T) {
	mixed := mixer(131)
	trees := [2]*Tree{New(), New()}
	now := [2]*texts{noTexts(), noTexts()}
	for range 3_000 {
		who := mixed.below(2)
		wantSameStep(t, trees[who], now[who], mixed.step(now[who], "ddfflxmm"))
		wantSame(t, "the other one", trees[1-who], now[1-who])
		if t.Failed() {
			t.FailNow()
		}
	}
}
