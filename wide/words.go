package wide

import (
	"cmp"
	"math/bits"
	"slices"
)

// The absolute value of an integer is a slice of words, the least one first. Its last word is not 0, so that each value
// has one slice: 0 has no words. The functions here return such slices in new memory, unless they say otherwise.

const wordBits = 32

const maxWord = 1<<wordBits - 1

// carrying returns a function that adds what its previous call carried to a sum, returns the last word of that, and
// carries the rest. What is carried is negative if a signed sum is.
func carrying[T int64 | uint64]() func(sum T) uint32 {
	carry := T(0)
	return func(sum T) uint32 {
		sum += carry
		carry = sum >> wordBits
		return uint32(sum)
	}
}

// trimmed is a without the zeros at its end, in the same memory.
func trimmed(a []uint32) []uint32 {
	size := len(a)
	for size > 0 && a[size-1] == 0 {
		size--
	}
	if size == 0 {
		return nil
	}
	return a[:size]
}

// wordsOf returns the words of a number.
func wordsOf(n uint64) []uint32 {
	return trimmed([]uint32{uint32(n), uint32(n >> wordBits)})
}

// number returns the number with at most two words.
func number(a []uint32) uint64 {
	n := uint64(0)
	for i, word := range a {
		n |= uint64(word) << (wordBits * i)
	}
	return n
}

func compareWords(a, b []uint32) int {
	if len(a) != len(b) {
		return cmp.Compare(len(a), len(b))
	}
	for i := len(a) - 1; i >= 0; i-- {
		if a[i] != b[i] {
			return cmp.Compare(a[i], b[i])
		}
	}
	return 0
}

func sum(a, b []uint32) []uint32 {
	if len(a) < len(b) {
		a, b = b, a
	}
	total := make([]uint32, len(a)+1)
	copy(total, a)
	addTo(total, b)
	return trimmed(total)
}

// difference returns a - b, where b is not greater than a.
func difference(a, b []uint32) []uint32 {
	left := slices.Clone(a)
	takeFrom(left, b, 1)
	return trimmed(left)
}

func product(a, b []uint32) []uint32 {
	total := make([]uint32, len(a)+len(b))
	for i, factor := range a {
		carry := carrying[uint64]()
		for j, word := range b {
			total[i+j] = carry(uint64(total[i+j]) + uint64(factor)*uint64(word))
		}
		total[i+len(b)] = carry(0)
	}
	return trimmed(total)
}

// scaled returns a * factor + more.
func scaled(a []uint32, factor, more uint32) []uint32 {
	total := make([]uint32, len(a)+1)
	carry := carrying[uint64]()
	for i, word := range a {
		total[i] = carry(uint64(factor)*uint64(word) + uint64(more))
		more = 0
	}
	total[len(a)] = carry(uint64(more))
	return trimmed(total)
}

// addTo adds b to a, which has at least as many words and keeps its length, and tells whether the sum is too great for it.
func addTo(a, b []uint32) bool {
	carry := carrying[uint64]()
	for i, word := range b {
		a[i] = carry(uint64(a[i]) + uint64(word))
	}
	for i := len(b); i < len(a); i++ {
		a[i] = carry(uint64(a[i]))
	}
	return carry(0) > 0
}

// takeFrom takes b * factor from a, which has at least as many words as b and keeps its length, and tells whether the
// difference is negative, so that a power of 2^32 is missing from it.
func takeFrom(a, b []uint32, factor uint32) bool {
	multiple, borrow := carrying[uint64](), carrying[int64]()
	for i, word := range b {
		a[i] = borrow(int64(a[i]) - int64(multiple(uint64(factor)*uint64(word))))
	}
	for i := len(b); i < len(a); i++ {
		a[i] = borrow(int64(a[i]) - int64(multiple(0)))
	}
	return borrow(-int64(multiple(0))) > 0
}

// divide returns the quotient and the rest of a and b, which is not 0.
func divide(a, b []uint32) (quotient, rest []uint32) {
	switch {
	case len(a) < len(b):
		return nil, slices.Clone(a)
	case len(a) <= 2: // faster, and the most frequent
		return wordsOf(number(a) / number(b)), wordsOf(number(a) % number(b))
	}
	// Both are shifted so that the first bit of the divisor is set, because the estimates of the digits need it.
	shift := bits.LeadingZeros32(b[len(b)-1])
	rest = shiftedLeft(a, shift)
	quotient = longDivision(rest, trimmed(shiftedLeft(b, shift)))
	shiftRight(rest, shift)
	return trimmed(quotient), trimmed(rest)
}

func divideByWord(a []uint32, divisor uint32) (quotient []uint32, rest uint32) {
	quotient = make([]uint32, len(a))
	for i := len(a) - 1; i >= 0; i-- {
		part := uint64(rest)<<wordBits | uint64(a[i])
		quotient[i] = uint32(part / uint64(divisor))
		rest = uint32(part % uint64(divisor))
	}
	return trimmed(quotient), rest
}

// longDivision returns the quotient, perhaps with zeros at its end, and leaves the rest in its argument. The quotient of
// the leading words is the next digit of the whole quotient or, as the first bit of the divisor is set, up to 2 more.
func longDivision(rest, divisor []uint32) []uint32 {
	size := len(divisor)
	quotient := make([]uint32, len(rest)-size)
digits:
	for i := len(quotient) - 1; i >= 0; i-- {
		part := rest[i : i+size+1]
		digit := uint32(min(number(part[size-1:])/uint64(divisor[size-1]), maxWord))
		negative := takeFrom(part, divisor, digit)
		for {
			if !negative {
				quotient[i] = digit
				continue digits
			}
			digit--
			negative = !addTo(part, divisor)
		}
	}
	return quotient
}

// shiftedLeft returns a * 2^n, with one word more than a, even if that is 0.
func shiftedLeft(a []uint32, n int) []uint32 {
	total := make([]uint32, len(a)+1)
	carry := carrying[uint64]()
	for i, word := range a {
		total[i] = carry(uint64(word) << n)
	}
	total[len(a)] = carry(0)
	return total
}

// shiftRight divides a by 2^n, without the rest. As n is less than 32, only neighboring words meet.
func shiftRight(a []uint32, n int) {
	higher := uint32(0)
	for i := len(a) - 1; i >= 0; i-- {
		word := a[i]
		a[i] = uint32((uint64(higher)<<wordBits | uint64(word)) >> n)
		higher = word
	}
}
