package matrix

import (
	"slices"

	"skymosaic/api"
)

// maxPrime is the greatest prime, and modulus, with which is computed: products of two residues then fit in an int.
const maxPrime = 1<<31 - 1

// Modular returns the only x for which a x and b differ by multiples of a prime.
func Modular(a [][]int, b []int, prime int) ([]int, api.Errno) {
	if !isSystem(a, b, prime) {
		return nil, api.ErrArg
	}
	rows := residues(a, prime)
	for i, x := range b {
		rows[i] = append(rows[i], residue(x, prime))
	}
	rests, ok := solved(rows, prime, prime)
	if !ok {
		return nil, api.ErrRank
	}
	return slices.Concat(rests...), api.OK
}

// isSystem tells whether a and b have as many rows as columns, and the prime is one.
func isSystem(a [][]int, b []int, prime int) bool {
	n := len(a)
	return isSide(n) && len(b) == n && isPrime(prime) &&
		!slices.ContainsFunc(a, func(row []int) bool { return len(row) != n })
}

// isPrime tells whether n is a prime in range.
func isPrime(n int) bool {
	if n < 2 || n > maxPrime {
		return false
	}
	for divisor := 2; divisor*divisor <= n; divisor++ {
		if n%divisor == 0 {
			return false
		}
	}
	return true
}

// residues returns the numbers of rows modulo a modulus.
func residues(rows [][]int, modulus int) [][]int {
	result := make([][]int, len(rows))
	for i, row := range rows {
		for _, x := range row {
			result[i] = append(result[i], residue(x, modulus))
		}
	}
	return result
}

// residue returns the rest of x, from 0 to modulus - 1.
func residue(x, modulus int) int {
	return (x%modulus + modulus) % modulus
}

// solved changes rows of residues so that their first columns, as many as there are rows, become the unit matrix, and
// returns what the other columns become, or false if that is not possible. The modulus is a power of the prime: a number
// has an inverse if it is not a multiple of the prime.
func solved(rows [][]int, prime, modulus int) ([][]int, bool) {
	step := func(pivot []int, column int) func(row []int) {
		unit := inverse(pivot[column], modulus)
		for i, x := range pivot {
			pivot[i] = x * unit % modulus
		}
		return func(row []int) {
			factor := modulus - row[column]
			for i := column; i < len(row); i++ {
				row[i] = (row[i] + factor*pivot[i]) % modulus
			}
		}
	}
	size := len(rows)
	pivots, _ := eliminate(rows, size, func(x int) bool { return x%prime != 0 }, step)
	if len(pivots) < size {
		return nil, false
	}
	rests := make([][]int, size)
	for column, pivot := range slices.Backward(rows) {
		combine := step(pivot, column)
		for _, row := range rows[:column] {
			combine(row)
		}
		rests[column] = pivot[size:]
	}
	return rests, true
}

// inverse returns the inverse of x, which has one, by Euclid's algorithm: high and low are always multiples of x by toHigh
// and toLow, but for multiples of the modulus.
func inverse(x, modulus int) int {
	high, low := modulus, x
	toHigh, toLow := 0, 1
	for low > 0 {
		times := high / low
		high, low = low, high-times*low
		toHigh, toLow = toLow, toHigh-times*toLow
	}
	return residue(toHigh, modulus)
}
