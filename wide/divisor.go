package wide

import "slices"

// spareBits are left out of leading words, so that these can be computed with as ints.
const spareBits = 2

// A turn stands for steps of Euclid's algorithm, which turn x and y into a*x + b*y and c*x + d*y.
type turn struct{ a, b, c, d int }

// commonDivisor returns the greatest common divisor of a and b, by Lehmer's algorithm: many steps of Euclid's algorithm
// depend on the leading words alone, and are applied to the numbers all at once.
func commonDivisor(a, b []uint32) []uint32 {
	if compareWords(a, b) < 0 {
		a, b = b, a
	}
	for len(b) > 2 {
		t := turnOf(leading(a, len(a)), leading(b, len(a)))
		if t.b == 0 { // not even one step is certain
			_, rest := divide(a, b)
			a, b = b, rest
			continue
		}
		a, b = combined(a, b, t.a, t.b), combined(a, b, t.c, t.d)
	}
	if len(b) == 0 {
		return slices.Clone(a)
	}
	_, rest := divide(a, b)
	return wordsOf(smallDivisor(number(b), number(rest)))
}

func smallDivisor(x, y uint64) uint64 {
	for y > 0 {
		x, y = y, x%y
	}
	return x
}

// leading returns what the first two of size words of a say, with zeros for words that a does not have.
func leading(a []uint32, size int) int {
	return int(number(a[min(size-2, len(a)):]) >> spareBits)
}

// turnOf returns the steps of Euclid's algorithm that are the same for all numbers whose leading words say x and y. Such
// numbers are x + u and y + v, in units of the last bit of x, for some u and v from 0 to less than 1. The steps turn them
// into x + a*u + b*v and y + c*u + d*v, with the new x and y. Of a and b, one is at most 0 and the other one at least 0,
// of c and d just the other way round. So the next quotient lies between (x + a) / (y + c) and (x + b) / (y + d), and is
// known if these are equal when they are rounded down. After a step that was known, |d| is less than the new x; and as
// |d| times the new x is at most the first x, which is less than 2^62, |d| is less than 2^31, and so are the others.
func turnOf(x, y int) turn {
	t := turn{a: 1, d: 1}
	for y+t.c > 0 && y+t.d > 0 {
		q := (x + t.a) / (y + t.c)
		if q != (x+t.b)/(y+t.d) {
			break
		}
		t = turn{t.c, t.d, t.a - q*t.c, t.b - q*t.d}
		x, y = y, x-q*y
	}
	return t
}

// combined returns p * a + q * b, which is from 0 to a. As |p| and |q| are less than 2^31, and at most one of both is
// greater than 0, their products with words, and what is carried, fit in 64 bits together.
func combined(a, b []uint32, p, q int) []uint32 {
	total := make([]uint32, len(a))
	copy(total, b)
	carry := carrying[int64]()
	for i, word := range a {
		total[i] = carry(int64(p)*int64(word) + int64(q)*int64(total[i]))
	}
	return trimmed(total)
}
