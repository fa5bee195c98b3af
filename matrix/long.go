package matrix

import "math/bits"

// long is an integer from -2^127 to 2^127 - 1, in two's complement. It has room for what is left of a system of ints and for
// the products with digits that are taken from it, which package wide would compute more slowly.
type long struct{ high, low uint64 }

// longOf returns n.
func longOf(n int) long {
	return long{uint64(n >> 63), uint64(n)}
}

// plus returns the sum of l and the products of the numbers of two lists.
func (l long) plus(a, b []int) long {
	for i, x := range a {
		y := b[i]
		high, low := bits.Mul64(uint64(x), uint64(y))
		// A negative factor was taken for one that is greater by 2^64.
		high -= uint64(x>>63&y) + uint64(y>>63&x)
		low, carry := bits.Add64(l.low, low, 0)
		high, _ = bits.Add64(l.high, high, carry)
		l = long{high, low}
	}
	return l
}

// divided returns l / n, rounded down, and the rest. Of a negative integer, the complement is divided: as that is by 1 less
// than the absolute value, its quotient and its rest are the complements of those of l.
func (l long) divided(n int) (long, int) {
	sign := uint64(int(l.high) >> 63)
	high, left := bits.Div64(0, l.high^sign, uint64(n))
	low, left := bits.Div64(left, l.low^sign, uint64(n))
	rest := int(left)
	if sign != 0 {
		rest = n - 1 - rest
	}
	return long{high ^ sign, low ^ sign}, rest
}
