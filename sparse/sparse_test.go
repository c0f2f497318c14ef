package sparse

import (
	"fmt"
	"math"
	"slices"
	"strings"
	"testing"

	"platterhold/api"
	"platterhold/plain"
)

// step is a call that may change a file: of Cut at is a size.
type step struct {
	call string
	at   int
	l    []int
}

// write is a step that writes.
func write(at int, l ...int) step { return step{"Write", at, l} }

// cut is a step that cuts.
func cut(size int) step { return step{call: "Cut", at: size} }

// String shows a step.
func (s step) String() string {
	if s.call == "Cut" {
		return fmt.Sprintf("Cut(%d)", s.at)
	}
	return fmt.Sprintf("Write(%d, %d bytes: %s)", s.at, len(s.l), brief(s.l))
}

// on does the step on a file.
func (s step) on(f *File) error {
	switch s.call {
	case "Write":
		return f.Write(s.at, s.l)
	case "Cut":
		return f.Cut(s.at)
	}
	panic("no such step: " + s.call)
}

// brief shows numbers; of more than three of one kind beside each other it tells how many they are, as 0*60.
func brief(l []int) string {
	var words []string
	for len(l) > 0 {
		many := 1
		for many < len(l) && l[many] == l[0] {
			many++
		}
		word := fmt.Sprint(l[0])
		if many > 3 {
			word += fmt.Sprint("*", many)
		} else {
			many = 1
		}
		words = append(words, word)
		l = l[many:]
	}
	return strings.Join(words, " ")
}

// text shows a size, bytes and blocks, as 10 [1 2 3 0*7] [0].
func text(size int, l, blocks []int) string {
	return fmt.Sprintf("%d [%s] %v", size, brief(l), blocks)
}

// shown is the text of a file.
func shown(f *File) string {
	l, err := f.Read(0, 64)
	if err != nil {
		return "Read(0, 64): " + err.Error()
	}
	return text(f.Size(), l, f.Blocks())
}

// wantFile asks for the text of a file.
func wantFile(t *testing.T, what any, f *File, want string) {
	t.Helper()
	if got := shown(f); got != want {
		t.Errorf("%v: got %s, want %s", what, got, want)
	}
}

// wantError asks for an error, for which nil alone stands for none.
func wantError(t *testing.T, what any, err error, want api.Errno) {
	t.Helper()
	if told := plain.Told(err); told != want || (err == nil) != (want == api.OK) {
		t.Errorf("%v: error %v (nil: %v), want %v", what, told, err == nil, want)
	}
}

// wantStep does a step, and asks for its error; behind one the file is as it was, and the list is so in any case.
func wantStep(t *testing.T, f *File, s step, want api.Errno) {
	t.Helper()
	was, l := shown(f), slices.Clone(s.l)
	wantError(t, s, s.on(f), want)
	if want != api.OK {
		wantFile(t, s, f, was)
	}
	if !slices.Equal(s.l, l) {
		t.Errorf("%s: the list was %v, and is %v", s, l, s.l)
	}
}

// wantRead reads, and asks for the bytes, or for the error.
func wantRead(t *testing.T, f *File, at, n int, want []int, wantNo api.Errno) {
	t.Helper()
	got, err := f.Read(at, n)
	told := plain.Told(err)
	if told != wantNo || (err == nil) != (wantNo == api.OK) || !slices.Equal(got, want) {
		t.Errorf("Read(%d, %d) of %s: got %v, %v (nil: %v), want %v, %v", at, n, shown(f), got, told, err == nil, want, wantNo)
	}
}

// fileOf is a file behind steps that come off.
func fileOf(t *testing.T, steps ...step) *File {
	t.Helper()
	f := New()
	for _, s := range steps {
		wantStep(t, f, s, api.OK)
	}
	return f
}

// wanted are steps, and the text of a file behind them.
type wanted struct {
	steps []step
	want  string
}

// wantAll plays each of some steps on a new file.
func wantAll(t *testing.T, all ...wanted) {
	t.Helper()
	for _, one := range all {
		wantFile(t, one.steps, fileOf(t, one.steps...), one.want)
	}
}

// rising are so many bytes, of which the first one is 1.
func rising(n int) []int {
	l := make([]int, n)
	for i := range l {
		l[i] = 1 + i%255
	}
	return l
}

// someFiles are steps that come off, each row to another file.
func someFiles() [][]step {
	return [][]step{
		nil,
		{cut(7)},
		{cut(64)},
		{write(0, 1)},
		{write(0, 1, 2, 3, 4)},
		{write(3, 8, 9)},
		{write(6, 7, 8), cut(6)},
		{write(2, 5, 6, 7, 8), write(20, 9), cut(30)},
		{write(60, 1, 2, 3, 4)},
		{write(63, 255)},
		{write(0, rising(64)...)},
		{write(0, rising(64)...), cut(37)},
		{write(0, rising(64)...), cut(5), cut(64), write(50, 0)},
	}
}

// noSizes are numbers that are no size, no place and no count, just outside and far off, also such as end in fit bits.
func noSizes() []int {
	return []int{
		-1, 65, -2, 66, -3, -4, -63, -64, -65, 67, 68, 100, 127, 128, 129, 255, 256, 257, 1 << 32, 1<<32 + 1, 1<<32 + 64,
		-1 << 32, -1<<32 + 9, 1 << 62, 1<<62 + 64, -1 << 62, math.MinInt32, math.MaxInt32, math.MinInt, math.MinInt + 1,
		math.MinInt + 64, math.MaxInt - 64, math.MaxInt - 63, math.MaxInt - 1, math.MaxInt,
	}
}

// noBytes are numbers that are no byte, just outside and far off, also such as end in fit bits.
func noBytes() []int {
	return []int{
		-1, 256, -2, 257, -128, -255, -256, 300, 511, 512, 513, 1 << 32, 1<<32 + 1, 1<<32 + 255, -1 << 32, -1<<32 + 9,
		1 << 62, 1<<62 + 255, -1 << 62, math.MinInt32, math.MaxInt32, math.MinInt, math.MinInt + 1, math.MinInt + 255,
		math.MaxInt - 255, math.MaxInt - 1, math.MaxInt,
	}
}

// wrongStep is a step, and the error that it tells of any file.
type wrongStep struct {
	step
	want api.Errno
}

// wrongSteps are some with each kind of fault.
func wrongSteps() []wrongStep {
	all := []wrongStep{
		{write(0, rising(65)...), api.ErrFull},
		{write(64, 1), api.ErrFull},
		{write(62, 1, 2, 3), api.ErrFull},
		{write(1, rising(64)...), api.ErrFull},
		{write(0, 1, 2, 3, 256), api.ErrRange},
		{write(0, append(rising(63), -1)...), api.ErrRange},
		{write(40, -1, 2, 3), api.ErrRange},
	}
	for _, no := range noSizes() {
		all = append(all, wrongStep{cut(no), api.ErrRange}, wrongStep{write(no), api.ErrRange}, wrongStep{write(no, 1, 2), api.ErrRange})
	}
	return all
}

// TestNumbers (15.1, P3): the numbers that bound things, which the tests here write out.
func TestNumbers(t *testing.T) {
	if api.MaxSize != 64 || api.MaxByte != 255 {
		t.Fatalf("MaxSize %d, MaxByte %d", api.MaxSize, api.MaxByte)
	}
}

// TestNew (15.1): without bytes, also when it was made longer.
func TestNew(t *testing.T) {
	f := New()
	wantFile(t, "new", f, "0 [] []")
	wantStep(t, f, cut(64), api.OK)
	wantFile(t, "longer", f, "64 [0*64] []")
}

// TestByHand (15.1): what can be followed on paper.
func TestByHand(t *testing.T) {
	f := New()
	for _, one := range []struct {
		step
		want string
	}{
		{write(2, 5, 6, 7), "5 [0 0 5 6 7] [0 1]"},
		{write(12, 9), "13 [0 0 5 6 7 0*7 9] [0 1 3]"},
		{write(4, 1, 0), "13 [0 0 5 6 1 0*7 9] [0 1 3]"},
		{cut(5), "5 [0 0 5 6 1] [0 1]"},
		{cut(4), "4 [0 0 5 6] [0]"},
		{cut(3), "3 [0 0 5] [0]"},
		{cut(6), "6 [0 0 5 0 0 0] [0]"},
		{write(9, 8), "10 [0 0 5 0*6 8] [0 2]"},
		{write(0, 255, 254, 253), "10 [255 254 253 0*6 8] [0 2]"},
		{write(30), "10 [255 254 253 0*6 8] [0 2]"},
		{cut(0), "0 [] []"},
		{cut(10), "10 [0*10] []"},
	} {
		wantStep(t, f, one.step, api.OK)
		wantFile(t, one.step, f, one.want)
	}
}

// TestErrorsChangeNothing (15.1, P1): behind wrong steps a file is as it was, also where it is made longer later.
func TestErrorsChangeNothing(t *testing.T) {
	for _, steps := range someFiles() {
		for _, longer := range []step{cut(64), write(63, 99)} {
			good := shown(fileOf(t, append(slices.Clone(steps), longer)...))
			for _, wrong := range wrongSteps() {
				f := fileOf(t, steps...)
				wantStep(t, f, wrong.step, wrong.want)
				wantStep(t, f, longer, api.OK)
				wantFile(t, fmt.Sprint(steps, wrong, longer), f, good)
			}
		}
	}
}

// TestAskingChangesNothing (15.1, P1): Size, Read and Blocks, also of what is wrong, change nothing, also not what is
// behind the end.
func TestAskingChangesNothing(t *testing.T) {
	for _, steps := range someFiles() {
		f := fileOf(t, steps...)
		want := shown(f)
		for _, no := range noSizes() {
			wantRead(t, f, no, 3, nil, api.ErrRange)
			wantRead(t, f, 3, no, nil, api.ErrRange)
		}
		for range 3 {
			wantFile(t, steps, f, want)
		}
		longer := cut(64)
		wantStep(t, f, longer, api.OK)
		wantFile(t, fmt.Sprint(steps, longer), f, shown(fileOf(t, append(slices.Clone(steps), longer)...)))
	}
}

// TestTwoFiles (15.1, P2): two files share nothing, whichever one was made first.
func TestTwoFiles(t *testing.T) {
	one, other := New(), New()
	wantStep(t, one, write(0, 1, 2, 3, 4, 5), api.OK)
	wantFile(t, "the other one", other, "0 [] []")
	wantStep(t, other, write(4, 9), api.OK)
	wantFile(t, "one", one, "5 [1 2 3 4 5] [0 1]")
	wantFile(t, "the other one", other, "5 [0*4 9] [1]")
	wantStep(t, other, cut(64), api.OK)
	wantStep(t, one, cut(0), api.OK)
	wantFile(t, "one", one, "0 [] []")
	wantFile(t, "the other one", other, "64 [0*4 9 0*59] [1]")
	wantFile(t, "a new one", New(), "0 [] []")
}

// TestManyTimes (15.1, P1): a file is written and cut as often as one likes.
func TestManyTimes(t *testing.T) {
	f := New()
	for i := range 20_000 {
		f.Write(i%60, []int{i % 256, 1, 2, 3})
		f.Cut(i % 65)
	}
	wantStep(t, f, cut(0), api.OK)
	wantStep(t, f, write(1, 7), api.OK)
	wantStep(t, f, cut(64), api.OK)
	wantFile(t, "many times", f, "64 [0 7 0*62] [0]")
}
