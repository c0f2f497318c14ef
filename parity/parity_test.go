package parity

import (
	"math"
	"slices"
	"testing"

	"platterhold/api"
	"platterhold/plain"
)

// rowOf makes a row of so many bytes, all alike.
func rowOf(width, b int) []int {
	row := make([]int, width)
	for i := range row {
		row[i] = b
	}
	return row
}

// rowsOf makes so many rows of a width, no two of them alike.
func rowsOf(many, width int) [][]int {
	rows := make([][]int, many)
	for i := range rows {
		rows[i] = make([]int, width)
		for j := range rows[i] {
			rows[i][j] = (i*37 + j*11 + 5) % (api.MaxByte + 1)
		}
	}
	return rows
}

// wantErr asks for an error, and that nil alone stands for none.
func wantErr(t *testing.T, what string, err error, want api.Errno) {
	t.Helper()
	if got := plain.Told(err); got != want {
		t.Errorf("%s: error %v, want %v", what, got, want)
	}
	if (err == nil) != (want == api.OK) {
		t.Errorf("%s: error is nil: %v, want %v", what, err == nil, want == api.OK)
	}
}

// wantRow asks for a row and an error; with an error there is no row.
func wantRow(t *testing.T, what string, got []int, err error, want []int, wantNo api.Errno) {
	t.Helper()
	wantErr(t, what, err, wantNo)
	if !slices.Equal(got, want) {
		t.Errorf("%s: got %v, want %v", what, got, want)
	}
}

type fault struct {
	name string
	rows [][]int
	want api.Errno
}

// faultsOfRows: what Check says, for all calls that check rows.
func faultsOfRows() []fault {
	width := api.MaxWidth
	wide := rowOf(width+1, 1)
	wideWrong := rowOf(width+1, -1)
	return []fault{
		{"one row", [][]int{{7}}, api.OK},
		{"a row without bytes", [][]int{{}}, api.OK},
		{"nil as a row", [][]int{nil, {}, nil}, api.OK},
		{"least and greatest bytes", [][]int{{0, api.MaxByte}, {api.MaxByte, 0}}, api.OK},
		{"MaxRows rows of MaxWidth", rowsOf(api.MaxRows, width), api.OK},

		{"nil", nil, api.ErrNone},
		{"no row", [][]int{}, api.ErrNone},
		{"one row too many", rowsOf(api.MaxRows+1, 2), api.ErrFull},
		{"too many empty rows", make([][]int, api.MaxRows+1), api.ErrFull},
		{"one byte too many", [][]int{wide}, api.ErrFull},
		{"one byte too many in each", [][]int{wide, wide}, api.ErrFull},
		{"one byte too many in the last", [][]int{rowOf(width, 1), rowOf(width, 1), wide}, api.ErrFull},
		{"just below 0", [][]int{{0, -1}}, api.ErrRange},
		{"just above MaxByte", [][]int{{0, api.MaxByte + 1}}, api.ErrRange},
		{"least int", [][]int{{math.MinInt}}, api.ErrRange},
		{"greatest int", [][]int{{1}, {math.MaxInt}}, api.ErrRange},
		{"no byte at the last place of the last row", [][]int{{1, 2}, {3, 4}, {5, 256}}, api.ErrRange},
		{"no byte at the first place", [][]int{{-1, 2}, {3, 4}}, api.ErrRange},
		{"a shorter row", [][]int{{1, 2}, {3}}, api.ErrShape},
		{"a longer row", [][]int{{1, 2}, {3, 4, 5}}, api.ErrShape},
		{"a row without bytes behind one with", [][]int{{1}, {}}, api.ErrShape},
		{"a row with bytes behind one without", [][]int{{}, {1}}, api.ErrShape},
		{"as long as the one ahead, not as the first", [][]int{{1}, {1}, {1, 2}, {1, 2}}, api.ErrShape},

		{"too many rows, all wrong", slices.Repeat([][]int{wideWrong, {-1}}, api.MaxRows), api.ErrFull},
		{"too many rows, one no byte", append(rowsOf(api.MaxRows, 1), []int{-1}), api.ErrFull},
		{"too many rows, of unlike length", append(rowsOf(api.MaxRows, 2), []int{1}), api.ErrFull},
		{"too wide, and no bytes", [][]int{wideWrong}, api.ErrFull},
		{"too wide, and unlike the first", [][]int{{1}, wide}, api.ErrFull},
		{"no byte, and shorter", [][]int{{1, 2}, {-1}}, api.ErrRange},
		{"no byte, and longer", [][]int{{1}, {1, 256}}, api.ErrRange},
		{"no byte ahead of too wide", [][]int{{-1}, wide}, api.ErrRange},
		{"no byte ahead of unlike length", [][]int{{1, -1}, {1}}, api.ErrRange},
		{"unlike length ahead of no byte", [][]int{{1, 2}, {1}, {-1, 2}}, api.ErrShape},
		{"unlike length ahead of too wide", [][]int{{1, 2}, {1}, wide}, api.ErrShape},
		{"too wide ahead of no byte", [][]int{wide, {-1}}, api.ErrFull},
	}
}

// Promise 1.1: Check.
func TestCheckTellsTheFirstFault(t *testing.T) {
	for _, c := range faultsOfRows() {
		wantErr(t, c.name, Check(c.rows), c.want)
	}
}

// Promise 1.1: Of checks as Check does, and has no row with an error.
func TestOfChecksItsRows(t *testing.T) {
	for _, c := range faultsOfRows() {
		got, err := Of(c.rows)
		wantErr(t, c.name, err, c.want)
		if err != nil && got != nil {
			t.Errorf("%s: a row %v with an error", c.name, got)
		}
	}
}

// Promise 1.1: Of.
func TestOfIsTheExclusiveOr(t *testing.T) {
	cases := []struct {
		name string
		rows [][]int
		want []int
	}{
		{"one row is itself", [][]int{{0, 1, 128, 255}}, []int{0, 1, 128, 255}},
		{"a row and itself are noughts", [][]int{{9, 8, 255}, {9, 8, 255}}, []int{0, 0, 0}},
		{"bits that do not meet", [][]int{{0xf0, 1}, {0x0f, 2}}, []int{255, 3}},
		{"bits that meet", [][]int{{12, 7}, {10, 5}}, []int{6, 2}},
		{"three rows", [][]int{{1, 2}, {4, 8}, {16, 2}}, []int{21, 8}},
		{"all ones, an odd number of times", slices.Repeat([][]int{{255}}, 7), []int{255}},
		{"all ones, MaxRows times", slices.Repeat([][]int{{255}}, api.MaxRows), []int{0}},
		{"each row of MaxRows counts", [][]int{{1}, {2}, {4}, {8}, {16}, {32}, {64}, {128}}, []int{255}},
		{"rows without bytes", [][]int{{}, nil}, nil},
		{"MaxWidth places", [][]int{rowOf(api.MaxWidth, 3), rowOf(api.MaxWidth, 5)}, rowOf(api.MaxWidth, 6)},
	}
	for _, c := range cases {
		got, err := Of(c.rows)
		wantRow(t, c.name, got, err, c.want, api.OK)
	}
}

// Promise 1.2: what Of has taken in, Again gives back, whichever row is lost and whatever stands in its place.
func TestAgainMakesEachRow(t *testing.T) {
	for many := 1; many <= api.MaxRows; many++ {
		for _, width := range []int{0, 1, 5, api.MaxWidth} {
			rows := rowsOf(many, width)
			more, err := Of(rows)
			wantErr(t, "Of", err, api.OK)
			for k := range rows {
				was := rows[k]
				rows[k] = rowOf(width, 170)
				got, err := Again(rows, more, k)
				wantRow(t, "Again", got, err, was, api.OK)
				rows[k] = was
			}
		}
	}
}

// Promise 1.2: by numbers that were reckoned by hand, where more is Of of nothing in particular.
func TestAgainByHand(t *testing.T) {
	rows := [][]int{{1, 2}, {4, 8}, {16, 32}}
	more := []int{255, 0}
	for k, want := range [][]int{{255 ^ 4 ^ 16, 8 ^ 32}, {255 ^ 1 ^ 16, 2 ^ 32}, {255 ^ 1 ^ 4, 2 ^ 8}} {
		got, err := Again(rows, more, k)
		wantRow(t, "Again", got, err, want, api.OK)
	}
	got, err := Again([][]int{{77, 78}}, []int{3, 4}, 0)
	wantRow(t, "the only row", got, err, []int{3, 4}, api.OK)
}

// Promise 1.2: errors of Again, the rows' ahead of more's, and more's ahead of k's.
func TestAgainTellsTheFirstFault(t *testing.T) {
	good := [][]int{{1, 2}, {3, 4}}
	wide := rowOf(api.MaxWidth+1, 1)
	cases := []struct {
		name string
		rows [][]int
		more []int
		k    int
		want api.Errno
	}{
		{"more is too wide", good, wide, 0, api.ErrFull},
		{"more is just wide enough, and unlike", good, rowOf(api.MaxWidth, 1), 0, api.ErrShape},
		{"more has a number below 0", good, []int{0, -1}, 0, api.ErrRange},
		{"more has a number above MaxByte", good, []int{api.MaxByte + 1, 0}, 0, api.ErrRange},
		{"more is shorter", good, []int{1}, 0, api.ErrShape},
		{"more is longer", good, []int{1, 2, 3}, 0, api.ErrShape},
		{"more is nil", good, nil, 0, api.ErrShape},
		{"more has bytes, rows have none", [][]int{{}}, []int{1}, 0, api.ErrShape},
		{"k is just below 0", good, []int{1, 2}, -1, api.ErrRange},
		{"k is just above the last row", good, []int{1, 2}, 2, api.ErrRange},
		{"k is the least int", good, []int{1, 2}, math.MinInt, api.ErrRange},
		{"k is the greatest int", good, []int{1, 2}, math.MaxInt, api.ErrRange},
		{"k is MaxRows", rowsOf(api.MaxRows, 2), []int{1, 2}, api.MaxRows, api.ErrRange},

		{"more is too wide, with no byte", good, rowOf(api.MaxWidth+1, 256), 0, api.ErrFull},
		{"more has no byte, and is shorter", good, []int{-1}, 0, api.ErrRange},
		{"more is too wide, and k no row", good, wide, 9, api.ErrFull},
		{"more is shorter, and k no row", good, []int{1}, -1, api.ErrShape},
		{"row k itself is checked", [][]int{{1, 2}, {3, 256}}, []int{1, 2}, 1, api.ErrRange},
		{"row k itself is shorter", [][]int{{1, 2}, {3}}, []int{1, 2}, 1, api.ErrShape},
		{"no rows, and more is too wide", nil, wide, 0, api.ErrNone},
		{"too many rows, and more no byte", rowsOf(api.MaxRows+1, 1), []int{-1}, 0, api.ErrFull},
		{"rows have no byte, and more is too wide", [][]int{{-1}}, wide, 0, api.ErrRange},
		{"rows are unlike, and more has no byte", [][]int{{1}, {1, 2}}, []int{-1}, 0, api.ErrShape},
		{"rows are unlike, and k no row", [][]int{{1}, {1, 2}}, []int{1}, -1, api.ErrShape},
	}
	for _, c := range cases {
		got, err := Again(c.rows, c.more, c.k)
		wantRow(t, c.name, got, err, nil, c.want)
	}
	for _, c := range faultsOfRows() {
		if c.want == api.OK {
			continue
		}
		got, err := Again(c.rows, []int{-1}, -1)
		wantRow(t, c.name, got, err, nil, c.want)
	}
}

// Promise 1.2: Small comes to what Of of the changed rows is.
func TestSmallIsOfTheChangedRows(t *testing.T) {
	for _, width := range []int{0, 1, api.MaxWidth} {
		rows := rowsOf(api.MaxRows, width)
		more, _ := Of(rows)
		for k := range rows {
			was, is := rows[k], rowOf(width, 201)
			got, err := Small(more, was, is)
			rows[k] = is
			want, _ := Of(rows)
			rows[k] = was
			wantRow(t, "Small", got, err, want, api.OK)
		}
	}
	got, err := Small([]int{1, 255, 6}, []int{2, 255, 6}, []int{4, 255, 1})
	wantRow(t, "by hand", got, err, []int{7, 255, 1}, api.OK)
}

// Promise 1.2: Small checks its three as rows, in the order in which they are handed in.
func TestSmallTellsTheFirstFault(t *testing.T) {
	wide := rowOf(api.MaxWidth+1, 1)
	cases := []struct {
		name          string
		more, was, is []int
		want          api.Errno
	}{
		{"all empty", nil, []int{}, nil, api.OK},
		{"more is too wide", wide, []int{1}, []int{1}, api.ErrFull},
		{"was is too wide", []int{1}, wide, []int{1}, api.ErrFull},
		{"is is too wide", []int{1}, []int{1}, wide, api.ErrFull},
		{"more has no byte", []int{-1}, []int{1}, []int{1}, api.ErrRange},
		{"was has no byte", []int{1}, []int{256}, []int{1}, api.ErrRange},
		{"is has no byte", []int{1}, []int{1}, []int{math.MinInt}, api.ErrRange},
		{"more is longer", []int{1, 2}, []int{1}, []int{1}, api.ErrShape},
		{"was is shorter", []int{1, 2}, []int{1}, []int{1, 2}, api.ErrShape},
		{"is is empty", []int{1, 2}, []int{1, 2}, nil, api.ErrShape},
		{"more's fault ahead of was's", []int{-1}, wide, []int{1}, api.ErrRange},
		{"more's fault ahead of is's", wide, []int{1}, []int{-1}, api.ErrFull},
		{"was's fault ahead of is's", []int{1, 2}, []int{1}, wide, api.ErrShape},
		{"was's fault ahead of is's, turned about", []int{1, 2}, wide, []int{1}, api.ErrFull},
	}
	for _, c := range cases {
		got, err := Small(c.more, c.was, c.is)
		wantRow(t, c.name, got, err, nil, c.want)
	}
}

// withSpare gives a row that has memory behind its end, and all of that memory.
func withSpare(row []int) (short, all []int) {
	all = append(slices.Clone(row), 91, 92, 93)
	return all[:len(row)], all
}

// Rule P2: nothing that is handed in is written into, nor what lies behind it, and answers share nothing with it.
func TestAnswersAreFreshMemory(t *testing.T) {
	for _, many := range []int{1, 3} {
		behind := []int{81, 82}
		allRows := append(rowsOf(many, 4), behind)
		allBytes := make([][]int, many)
		for i := range many {
			allRows[i], allBytes[i] = withSpare(allRows[i])
		}
		given := allRows[:many]
		more, allMore := withSpare(rowOf(4, 44))

		of, _ := Of(given)
		again, _ := Again(given, more, 0)
		small, _ := Small(more, given[0], given[many-1])
		for _, answer := range [][]int{of, again, small} {
			for i := range answer {
				answer[i] = -7
			}
			_ = append(answer, -7, -7, -7)
		}

		for i, row := range rowsOf(many, 4) {
			_, want := withSpare(row)
			if !slices.Equal(given[i], row) || !slices.Equal(allBytes[i], want) {
				t.Errorf("%d rows: row %d is changed: %v", many, i, allBytes[i])
			}
		}
		if _, want := withSpare(rowOf(4, 44)); !slices.Equal(allMore, want) {
			t.Errorf("%d rows: more is changed: %v", many, allMore)
		}
		if !slices.Equal(allRows[many], []int{81, 82}) {
			t.Errorf("%d rows: what lies behind the rows is changed: %v", many, allRows[many])
		}
	}
}

// Rule P2: an answer stays as it is when its arguments change, and no two answers share memory.
func TestAnswersAreNotKept(t *testing.T) {
	rows := rowsOf(3, 4)
	more, _ := Of(rows)
	first, _ := Of(rows)
	lost, _ := Again(rows, more, 1)
	kept := slices.Clone(first)
	keptLost := slices.Clone(lost)
	for _, row := range rows {
		clear(row)
	}
	clear(more)
	if !slices.Equal(first, kept) || !slices.Equal(lost, keptLost) {
		t.Error("an answer changed with its arguments, or with another answer")
	}
	now, err := Of(rows)
	wantRow(t, "rows of noughts", now, err, rowOf(4, 0), api.OK)
}

// Rule P2: what a call answers does not hang on the calls before it, those with an error among them.
func TestCallsDoNotHangOnOthers(t *testing.T) {
	rows := rowsOf(4, 6)
	want, _ := Of(rows)
	for _, c := range faultsOfRows() {
		_, _ = Of(c.rows)
		_, _ = Again(c.rows, rowOf(6, 1), 0)
		got, err := Of(rows)
		wantRow(t, c.name, got, err, want, api.OK)
	}
}

// Rule P4: what lies behind a list's length is not read: no byte there, and no row there, is a fault.
func TestMemoryBehindTheLengthIsNotRead(t *testing.T) {
	row := append(rowOf(2, 9), -1, 999)
	rows := [][]int{row[:2], row[:2], {-1}, rowOf(api.MaxWidth+1, -1)}
	got, err := Of(rows[:2])
	wantRow(t, "Of", got, err, []int{0, 0}, api.OK)
	got, err = Again(rows[:2], row[:2], 1)
	wantRow(t, "Again", got, err, []int{0, 0}, api.OK)
	_, err = Again(rows[:2], row[:2], 2)
	wantErr(t, "a row behind the end", err, api.ErrRange)
}

// Rule P1: no call panics, whatever it is given.
func TestNoCallPanics(t *testing.T) {
	numbers := []int{math.MinInt, -1, 0, 1, api.MaxByte, api.MaxByte + 1, math.MaxInt}
	widths := []int{0, 1, api.MaxWidth, api.MaxWidth + 1}
	for _, c := range faultsOfRows() {
		for _, n := range numbers {
			for _, width := range widths {
				more := rowOf(width, n)
				got, err := Again(c.rows, more, n)
				if err != nil && got != nil {
					t.Errorf("%s: a row with an error", c.name)
				}
				if _, err := Small(more, rowOf(1, n), more); err == nil && width != 1 {
					t.Errorf("width %d: rows of unlike length are taken", width)
				}
			}
		}
	}
}

// Rule P3: the errors that this package tells have the numbers that the document gives them.
func TestErrorsHaveTheirNumbers(t *testing.T) {
	cases := []struct {
		rows [][]int
		want int
	}{
		{[][]int{{1}}, 0},
		{[][]int{{256}}, 1},
		{[][]int{{1}, {}}, 3},
		{make([][]int, 9), 4},
		{[][]int{make([]int, 17)}, 4},
		{nil, 5},
	}
	for _, c := range cases {
		if got := int(plain.Told(Check(c.rows))); got != c.want {
			t.Errorf("Check(%v): number %d, want %d", c.rows, got, c.want)
		}
	}
}
