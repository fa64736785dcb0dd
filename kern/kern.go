// Package kern is layer 2: see shared/doc/02-kern.md.
package kern

import (
	"slices"

	"wellspring/api"
	"wellspring/field"
)

// Scale: each byte times one.
func Scale(c byte, row []byte) []byte {
	scaled := make([]byte, len(row))
	for i, b := range row {
		scaled[i] = field.Mul(c, b)
	}
	return scaled
}

// Axpy: so much of one row, and another one.
func Axpy(c byte, x, y []byte) ([]byte, api.Errno) {
	if len(x) != len(y) {
		return nil, api.ErrSize
	}
	sum := Scale(c, x)
	addTo(sum, y)
	return sum, api.OK
}

// Sum: of rows, place by place.
func Sum(rows ...[]byte) ([]byte, api.Errno) {
	if !alike(rows) {
		return nil, api.ErrSize
	}
	sum := blank(rows)
	for _, row := range rows {
		addTo(sum, row)
	}
	return sum, api.OK
}

// Comb: a combination.
func Comb(cs []byte, rows ...[]byte) ([]byte, api.Errno) {
	if len(cs) != len(rows) || !alike(rows) {
		return nil, api.ErrSize
	}
	sum := blank(rows)
	for i, row := range rows {
		addTo(sum, Scale(cs[i], row))
	}
	return sum, api.OK
}

// Dot: the sum of products.
func Dot(a, b []byte) (byte, api.Errno) {
	if len(a) != len(b) {
		return 0, api.ErrSize
	}
	sum := byte(0)
	for i := range len(a) {
		sum = field.Add(sum, field.Mul(a[i], b[i]))
	}
	return sum, api.OK
}

// Zero: are all 0?
func Zero(row []byte) bool {
	return !slices.ContainsFunc(row, func(b byte) bool { return b != 0 })
}

// alike: has each row the length of the first? None has another one, where there is no row.
func alike(rows [][]byte) bool {
	return !slices.ContainsFunc(rows, func(row []byte) bool { return len(row) != len(rows[0]) })
}

// blank is noughts, as long as rows that are alike; of no rows it is none.
func blank(rows [][]byte) []byte {
	if len(rows) == 0 {
		return nil
	}
	return make([]byte, len(rows[0]))
}

// addTo changes the sum in its place: none but one that was made for an answer may be handed to it.
func addTo(sum, row []byte) {
	for i, b := range row {
		sum[i] = field.Add(sum[i], b)
	}
}
