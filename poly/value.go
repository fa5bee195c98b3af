package poly

import (
	"math/bits"

	"skymosaic/api"
	"skymosaic/frac"
	"skymosaic/wide"
)

// unitBits is the greatest number n for which 2^n is an int.
const unitBits = 62

// value returns the value of a polynomial at a point. A coordinate p/q whose greatest exponent is n has the powers
// p^k q^(n-k) over the denominator q^n, so that all is added as integers and brought to lowest terms only once.
func value(c [20]int, at [3]frac.Frac) frac.Frac {
	powers, below := [3][4]wide.Int{}, wide.From(1)
	for axis, most := range greatestExponents(c) {
		p, q := at[axis].Num(), at[axis].Den()
		for k := range most + 1 {
			powers[axis][k] = product(power(p, k), power(q, most-k))
		}
		below = product(below, power(q, most))
	}
	above := wide.From(0)
	for i, m := range monomials {
		if c[i] != 0 {
			term := product(wide.From(c[i]), powers[0][m[0]], powers[1][m[1]], powers[2][m[2]])
			above, _ = wide.Add(above, term)
		}
	}
	result, _ := frac.Make(above, below)
	return result
}

// greatestExponents returns the greatest exponents of x, y and h where the coefficients are not 0.
func greatestExponents(c [20]int) [3]int {
	greatest := [3]int{}
	for i, exponents := range monomials {
		if c[i] == 0 {
			continue
		}
		for axis, exponent := range exponents {
			greatest[axis] = max(greatest[axis], exponent)
		}
	}
	return greatest
}

// power returns the product of n factors x.
func power(x wide.Int, n int) wide.Int {
	result := wide.From(1)
	for range n {
		result = product(result, x)
	}
	return result
}

// product returns the product of integers, which is in the range of package wide.
func product(first wide.Int, others ...wide.Int) wide.Int {
	for _, factor := range others {
		first, _ = wide.Mul(first, factor)
	}
	return first
}

// whole returns n as a fraction.
func whole(n wide.Int) frac.Frac {
	x, _ := frac.Make(n, wide.From(1))
	return x
}

// Digits returns the number of binary digits of the numerator or of the denominator of x, whichever are more.
func Digits(x frac.Frac) int {
	return max(length(x.Num()), length(x.Den()))
}

// length returns the number of binary digits of n without its sign, and 0 for 0.
func length(n wide.Int) int {
	if wide.Sign(n) < 0 {
		n = wide.Neg(n)
	}
	first, dropped := firstDigits(n, wide.From(1<<unitBits), unitBits)
	size, _ := first.Small()
	return dropped + bits.Len(uint(size))
}

// firstDigits divides n, which is not negative, by a power of unit, which is 2^size, so that less than unit is left, but
// not 0 unless n is. It returns what is left, and how many digits were dropped. It divides by the square of unit first,
// and so by all powers that are needed with few divisions.
func firstDigits(n, unit wide.Int, size int) (first wide.Int, dropped int) {
	if wide.Compare(n, unit) < 0 {
		return n, 0
	}
	if square, e := wide.Mul(unit, unit); e == api.OK { // otherwise n is less than the square
		n, dropped = firstDigits(n, square, 2*size)
	}
	if wide.Compare(n, unit) < 0 {
		return n, dropped
	}
	first, _, _ = wide.Div(n, unit)
	return first, dropped + size
}
