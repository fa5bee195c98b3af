package matrix

import (
	"slices"

	"skymosaic/frac"
	"skymosaic/wide"
)

// echelon is rows of integers in which each pivot, the first number of its row that is not 0, is further to the right than
// those above it; rows without a pivot come last.
type echelon struct {
	rows   [][]wide.Int
	pivots []int    // the columns of the pivots, row by row
	last   wide.Int // the last pivot, which is the determinant of the rows and columns of all pivots
	isOdd  bool     // whether the rows were exchanged an odd number of times
}

// echelonOf returns the echelon form of rows, which it changes, with pivots in the first columns. As Bareiss found, after n
// pivots the numbers in the rows below are determinants of n + 1 rows and columns, if what rows are combined to is divided by
// the pivot before. So there are neither rests nor fractions, and no number gets greater than such a determinant.
func echelonOf(rows [][]wide.Int, columns int) echelon {
	last := wide.From(1)
	step := func(pivot []wide.Int, column int) func(row []wide.Int) {
		before := last
		last = pivot[column]
		return func(row []wide.Int) {
			factor := row[column]
			for i := column; i < len(row); i++ {
				row[i] = quotient(crossed(last, row[i], factor, pivot[i]), before)
			}
		}
	}
	pivots, isOdd := eliminate(rows, columns, func(x wide.Int) bool { return wide.Sign(x) != 0 }, step)
	return echelon{rows, pivots, last, isOdd}
}

// crossed returns a * b - c * d.
func crossed(a, b, c, d wide.Int) wide.Int {
	result, _ := wide.Sub(product(a, b), product(c, d))
	return result
}

// reduced returns the numbers of the reduced form in a column without a pivot and the rows of pivots. By Cramer's rule, the
// last pivot times each of them is an integer; they are found from the last row on, where these multiples solve the
// equation that the row states for the columns of pivots.
func (f echelon) reduced(column int) []frac.Frac {
	multiples := make([]wide.Int, len(f.pivots))
	result := make([]frac.Frac, len(f.pivots))
	for i, pivot := range slices.Backward(f.pivots) {
		row := f.rows[i]
		left := product(f.last, row[column])
		for j := i + 1; j < len(f.pivots); j++ {
			left, _ = wide.Sub(left, product(row[f.pivots[j]], multiples[j]))
		}
		multiples[i] = quotient(left, row[pivot])
		result[i], _ = frac.Make(multiples[i], f.last)
	}
	return result
}

// eliminate brings rows into echelon form, with pivots in the first columns, and returns the columns of the pivots and
// whether the number of exchanges of rows was odd. For each pivot, step returns the function that combines a row with that
// of the pivot, so that the number below the pivot becomes 0.
func eliminate[T any](
	rows [][]T, columns int, isPivot func(x T) bool, step func(pivot []T, column int) func(row []T),
) (pivots []int, isOdd bool) {
	for column := range columns {
		top := len(pivots)
		i, ok := pivotRow(rows[top:], column, isPivot)
		if !ok {
			continue
		}
		if i > 0 {
			rows[top], rows[top+i] = rows[top+i], rows[top]
			isOdd = !isOdd
		}
		combine := step(rows[top], column)
		for _, row := range rows[top+1:] {
			combine(row)
		}
		pivots = append(pivots, column)
	}
	return pivots, isOdd
}

// pivotRow returns the first row with a pivot in a column, and false if there is none.
func pivotRow[T any](rows [][]T, column int, isPivot func(x T) bool) (int, bool) {
	for i, row := range rows {
		if isPivot(row[column]) {
			return i, true
		}
	}
	return 0, false
}
