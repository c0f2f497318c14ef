// Package parity has rows of bytes, and one more of which each can be made again.
package parity

import (
	"platterhold/api"
)

// Check tells what is wrong with rows.
func Check(rows [][]int) error {
	if len(rows) == 0 {
		return api.ErrNone
	}
	if len(rows) > api.MaxRows {
		return api.ErrFull
	}
	for _, row := range rows {
		if err := checkRow(row, len(rows[0])); err != nil {
			return err
		}
	}
	return nil
}

// Of rows: the row that is left of all by exclusive or.
func Of(rows [][]int) ([]int, error) {
	if err := Check(rows); err != nil {
		return nil, err
	}
	sum := make([]int, len(rows[0]))
	for _, row := range rows {
		mixIn(sum, row)
	}
	return sum, nil
}

// Again makes a row again, of all others and the one more.
func Again(rows [][]int, more []int, k int) ([]int, error) {
	if err := Check(rows); err != nil {
		return nil, err
	}
	if err := checkRow(more, len(rows[0])); err != nil {
		return nil, err
	}
	if k < 0 || k >= len(rows) {
		return nil, api.ErrRange
	}
	lost := make([]int, len(more))
	mixIn(lost, more)
	for i, row := range rows {
		if i != k {
			mixIn(lost, row)
		}
	}
	return lost, nil
}

// Small changes the one more, when a row was one and is another one.
func Small(more, was, is []int) ([]int, error) {
	// The one more, the old row and the new one are checked, and mixed, just as rows are.
	return Of([][]int{more, was, is})
}

// checkRow tells what is wrong with a row beside a first one of a width.
func checkRow(row []int, width int) error {
	if len(row) > api.MaxWidth {
		return api.ErrFull
	}
	for _, b := range row {
		if b < 0 || b > api.MaxByte {
			return api.ErrRange
		}
	}
	if len(row) != width {
		return api.ErrShape
	}
	return nil
}

// mixIn takes a row into a sum of the same length, by exclusive or.
func mixIn(sum, row []int) {
	for i, b := range row {
		sum[i] ^= b
	}
}
