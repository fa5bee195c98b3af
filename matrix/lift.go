package matrix

import (
	"math/bits"
	"slices"

	"skymosaic/api"
	"skymosaic/frac"
	"skymosaic/wide"
)

// Lifted is Solve for integers: the solution is found digit by digit modulo powers of a prime.
func Lifted(a [][]int, b []int, prime int) ([]frac.Frac, api.Errno) {
	if !isSystem(a, b, prime) {
		return nil, api.ErrArg
	}
	size := intSize(append(slices.Clone(a), b)...)
	if isTooLarge(len(a), size) {
		return nil, api.ErrLimit
	}
	base := greatestPower(prime)
	inverse, ok := inverted(a, prime, base)
	if !ok {
		return nil, api.ErrRank
	}
	// By Cramer's rule, numerators and denominators are less than 2^most. The modulus must be greater than twice the square of
	// that, so each half of the digits reaches beyond 2^(most + 1). All of them reach to less than 2^15000.
	most := len(a) * (size + spareDigits)
	half := (most+1)/(bits.Len(uint(base))-1) + 1
	return rebuiltAll(lift(a, inverse, b, base, 2*half), base), api.OK
}

// intSize returns the size of all integers of some lists.
func intSize(lists ...[]int) int {
	size := 1
	for _, list := range lists {
		for _, x := range list {
			size = max(size, bits.Len(uint(max(x, -x)))) // right for the least int as well, which is its own negative
		}
	}
	return size
}

// greatestPower returns the greatest power of a prime with which can be computed, because it gives many digits at a time.
func greatestPower(prime int) int {
	power := prime
	for power <= maxPrime/prime {
		power *= prime
	}
	return power
}

// inverted returns the inverse of a matrix modulo a power of a prime, or false if there is none.
func inverted(a [][]int, prime, modulus int) ([][]int, bool) {
	rows := residues(a, modulus)
	for i := range rows {
		rows[i] = append(rows[i], make([]int, len(rows))...)
		rows[i][len(rows)+i] = 1
	}
	return solved(rows, prime, modulus)
}

// lift returns digits to a base, the least ones first, of the numbers x for which a x and b differ by multiples of the power
// of the base that the digits reach to. What the digits found so far leave of b is a multiple of their power; divided by it,
// it determines the next digits.
func lift(a, inverse [][]int, b []int, base, count int) [][]int {
	size := len(a)
	digits, left := make([][]int, size), make([]long, size)
	for i, x := range b {
		left[i] = longOf(x)
	}
	rests, taken := make([]int, size), make([]int, size)
	for range count {
		for i := range rests {
			_, rests[i] = left[i].divided(base)
		}
		for i := range digits {
			_, digit := long{}.plus(inverse[i], rests).divided(base)
			digits[i] = append(digits[i], digit)
			taken[i] = -digit
		}
		for i := range left {
			left[i], _ = left[i].plus(a[i], taken).divided(base)
		}
	}
	return digits
}

// rebuiltAll returns the fractions with digits to a base. As their denominators have much in common, each of the numbers is
// multiplied by those found before: mostly that leaves an integer, which is rebuilt soon.
func rebuiltAll(digits [][]int, base int) []frac.Frac {
	count := len(digits[0]) / 2
	half := power(base, count)
	modulus := product(half, half)
	most := greatestPart(modulus)
	below := wide.From(1)
	result := make([]frac.Frac, len(digits))
	for i, list := range digits {
		// In two halves, because the product with all digits can be out of range.
		low, high := product(number(list[:count], base), below), product(number(list[count:], base), below)
		x, _ := wide.Add(low, product(rest(high, half), half))
		p, q := parts(rest(x, modulus), modulus, most)
		below = product(below, q)
		result[i], _ = frac.Make(p, below)
	}
	return result
}

// number returns the number with digits to a base, the least one first.
func number(digits []int, base int) wide.Int {
	total, factor := wide.From(0), wide.From(base)
	for _, digit := range slices.Backward(digits) {
		total, _ = wide.Add(product(total, factor), wide.From(digit))
	}
	return total
}

// Rebuild returns the fraction p / q for which p - x q is a multiple of the modulus, and neither |p| nor q is greater than the
// greatest integer whose square is less than half the modulus.
func Rebuild(x, modulus wide.Int) (frac.Frac, api.Errno) {
	if wide.Compare(modulus, wide.From(2)) < 0 || wide.Sign(x) < 0 || wide.Compare(x, modulus) >= 0 {
		return frac.Frac{}, api.ErrArg
	}
	most := greatestPart(modulus)
	p, q := parts(x, modulus, most)
	if wide.Compare(absolute(q), most) > 0 || wide.Compare(wide.Gcd(p, q), wide.From(1)) != 0 {
		return frac.Frac{}, api.ErrNone
	}
	result, _ := frac.Make(p, q)
	return result, api.OK
}

// parts returns p and q of which those of every fraction that Rebuild can return are multiples, by Euclid's algorithm. At
// each step, high - x toHigh and low - x toLow are multiples of the modulus, the signs of toHigh and toLow differ, and every
// pair of such numbers is a sum of multiples of (high, toHigh) and (low, toLow). Once low is at most most, the pair (p, q) of
// a fraction has no part of (high, toHigh): without signs, if both parts had the same one, p would be at least high, which is
// greater than most; and if they had different ones, q would be at least toLow, which would be greater than most, because
// p toLow - q low is then a multiple of the modulus, not 0, and thus greater than 2 most^2.
func parts(x, modulus, most wide.Int) (p, q wide.Int) {
	high, low := modulus, x
	toHigh, toLow := wide.From(0), wide.From(1)
	for wide.Compare(low, most) > 0 {
		times, left, _ := wide.Div(high, low)
		next, _ := wide.Sub(toHigh, product(times, toLow))
		high, low = low, left
		toHigh, toLow = toLow, next
	}
	return low, toLow
}

// greatestPart returns the greatest integer whose square is less than half the modulus.
func greatestPart(modulus wide.Int) wide.Int {
	less, _ := wide.Sub(modulus, wide.From(1))
	return root(quotient(less, wide.From(2)))
}

// root returns the greatest integer whose square is at most x, by Newton's method from above.
func root(x wide.Int) wide.Int {
	if wide.Sign(x) == 0 {
		return x
	}
	result := power(2, (digitsOf(x)+1)/2)
	for {
		other := quotient(x, result)
		if wide.Compare(other, result) >= 0 {
			return result
		}
		total, _ := wide.Add(result, other)
		result = quotient(total, wide.From(2))
	}
}

// power returns base^n.
func power(base, n int) wide.Int {
	x, _ := frac.Of(base, 1)
	x, _ = frac.Pow(x, n)
	return x.Num()
}

// rest returns the rest of x, from 0 to modulus - 1.
func rest(x, modulus wide.Int) wide.Int {
	_, left, _ := wide.Div(x, modulus)
	return left
}
