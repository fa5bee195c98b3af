package matrix

import (
	"math/bits"
	"slices"

	"skymosaic/api"
	"skymosaic/frac"
	"skymosaic/wide"
)

// maxSize is the greatest size that is ever allowed. Determinants of systems that are not too large have fewer digits, and
// so the products of two of them, of which at most 129 are added up, are in the range of package wide.
const maxSize = 7000

// spareDigits are added to the digits of each row, because by Hadamard's inequality a determinant of k rows can be greater
// than the product of the greatest numbers of its rows by k^(k/2), which is less than 2^(4k) for at most 128 rows.
const spareDigits = 4

// Common returns the least common multiple of all denominators, if the size of the list is at most most.
func Common(l []frac.Frac, most int) (wide.Int, api.Errno) {
	if most < 0 || most > maxSize {
		return wide.Int{}, api.ErrArg
	}
	size, common := measure(l)
	if size > most {
		return wide.Int{}, api.ErrLimit
	}
	return common, api.OK
}

// isSystemTooLarge tells whether the system of m and of further numbers is too large.
func isSystemTooLarge(m Matrix, further ...[]frac.Frac) bool {
	size, _ := measure(append(further, m.A)...)
	return isTooLarge(min(m.Rows, m.Cols+1), size)
}

func isTooLarge(k, size int) bool {
	return k*(size+spareDigits) > maxSize
}

// measure returns the size of all fractions of some lists, and the least common multiple of their denominators. If it is
// clear earlier that the size is greater than maxSize, it returns maxSize + 1 and 0.
func measure(lists ...[]frac.Frac) (size int, common wide.Int) {
	list := slices.Concat(lists...)
	common, ok := commonMultiple(list)
	if !ok {
		return maxSize + 1, wide.Int{}
	}
	greatest := common
	for _, x := range list {
		n, e := multiplied(x, common)
		if e != api.OK {
			return maxSize + 1, wide.Int{}
		}
		if n = absolute(n); wide.Compare(n, greatest) > 0 {
			greatest = n
		}
	}
	return digitsOf(greatest), common
}

// commonMultiple returns the least common multiple of the denominators of a list, or false as soon as it is clear that it
// has more than maxSize digits. Most denominators divide what was found so far, which is seen before a common divisor is.
func commonMultiple(list []frac.Frac) (wide.Int, bool) {
	common := wide.From(1)
	for _, x := range list {
		below := x.Den()
		if _, rest, _ := wide.Div(common, below); wide.Sign(rest) == 0 {
			continue
		}
		more, e := wide.Mul(common, quotient(below, wide.Gcd(common, below)))
		if e != api.OK || digitsOf(more) > maxSize {
			return wide.Int{}, false
		}
		common = more
	}
	return common, true
}

// multiplied returns x * n, where n is a multiple of the denominator of x.
func multiplied(x frac.Frac, n wide.Int) (wide.Int, api.Errno) {
	return wide.Mul(x.Num(), quotient(n, x.Den()))
}

// integerRows returns rows, each multiplied by the least common multiple of its denominators, and these multiples.
func integerRows(rows [][]frac.Frac) (integers [][]wide.Int, factors []wide.Int) {
	for _, row := range rows {
		factor, _ := commonMultiple(row)
		list := make([]wide.Int, len(row))
		for i, x := range row {
			list[i], _ = multiplied(x, factor)
		}
		integers, factors = append(integers, list), append(factors, factor)
	}
	return integers, factors
}

// digitsOf returns the number of bits of x, which is not negative.
func digitsOf(x wide.Int) int {
	const part = 62
	for count := 0; ; count += part {
		if n, ok := x.Small(); ok {
			return count + bits.Len(uint(n))
		}
		x = quotient(x, wide.From(1<<part))
	}
}

// absolute returns |x|.
func absolute(x wide.Int) wide.Int {
	if wide.Sign(x) < 0 {
		return wide.Neg(x)
	}
	return x
}

// quotient returns x / y without the rest.
func quotient(x, y wide.Int) wide.Int {
	q, _, _ := wide.Div(x, y)
	return q
}

// product returns the product of integers that is known to be in range.
func product(first wide.Int, others ...wide.Int) wide.Int {
	for _, factor := range others {
		first, _ = wide.Mul(first, factor)
	}
	return first
}
