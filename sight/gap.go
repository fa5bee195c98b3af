package sight

import (
	"slices"

	"skymosaic/frac"
	"skymosaic/poly"
)

// parabola is the gap in a piece: at the parameter t, it is constant + slope t + bend t^2.
type parabola struct{ constant, slope, bend frac.Frac }

// mark is a parameter of a piece and the gap there.
type mark struct{ at, gap frac.Frac }

// value returns the gap at a parameter.
func (g parabola) value(t frac.Frac) frac.Frac {
	return sum(g.constant, product(t, sum(g.slope, product(t, g.bend))))
}

// marks returns the numbers of the piece between two parameters: those of its bottom, if it has one, and those of its end.
func (g parabola) marks(start, end frac.Frac) []mark {
	marks := []mark{}
	if frac.Sign(g.bend) > 0 {
		bottom := quotient(g.slope, product(whole(-2), g.bend))
		if frac.Compare(start, bottom) < 0 && frac.Compare(bottom, end) < 0 {
			marks = append(marks, mark{bottom, g.value(bottom)})
		}
	}
	return append(marks, mark{end, g.value(end)})
}

// exceed tells whether a number exceeds the budget.
func exceed(marks []mark, budget int) bool {
	return slices.ContainsFunc(marks, func(m mark) bool { return max(poly.Digits(m.at), poly.Digits(m.gap)) > budget })
}

// isBelow tells whether the ray is below the terrain.
func (m mark) isBelow() bool {
	return frac.Sign(m.gap) < 0
}

// isReached tells whether the ray is not above the terrain.
func (m mark) isReached() bool {
	return frac.Sign(m.gap) <= 0
}

// sideOfZero returns a function that tells whether a parameter is less than (-1), equal to or greater than (1) the first one
// at which a gap is 0. The gap is greater than 0 up to start, but not at end. Between them it is 0 only once: either it bends
// upward and its bottom is not ahead of end, or it does not, and cannot rise again.
func sideOfZero(start, end frac.Frac, value func(t frac.Frac) frac.Frac) func(t frac.Frac) int {
	return func(t frac.Frac) int {
		switch {
		case frac.Compare(t, start) <= 0:
			return -1
		case frac.Compare(t, end) > 0:
			return 1
		}
		return -frac.Sign(value(t))
	}
}

// enclose returns the greatest multiple of 2^-bits that is not greater than a parameter greater than 0, and the least one
// that is not less.
func enclose(sideOf func(t frac.Frac) int, bits int) (lo, hi frac.Frac) {
	width, doublings := whole(1), 0
	for sideOf(width) <= 0 {
		width = sum(width, width)
		doublings++
	}
	for range doublings + bits { // the parameter is not less than lo, but less than lo + width
		width = quotient(width, whole(2))
		if middle := sum(lo, width); sideOf(middle) <= 0 {
			lo = middle
		}
	}
	if sideOf(lo) == 0 {
		return lo, lo
	}
	return lo, sum(lo, width)
}

// sum returns the sum of all terms, which is in the range of package frac.
func sum(terms ...frac.Frac) (total frac.Frac) {
	for _, term := range terms {
		total, _ = frac.Add(total, term)
	}
	return total
}

// difference returns a - b, which is in the range of package frac.
func difference(a, b frac.Frac) frac.Frac {
	result, _ := frac.Sub(a, b)
	return result
}

// product returns a * b, which is in the range of package frac.
func product(a, b frac.Frac) frac.Frac {
	result, _ := frac.Mul(a, b)
	return result
}

// quotient returns a / b, which is in the range of package frac. b is not 0.
func quotient(a, b frac.Frac) frac.Frac {
	result, _ := frac.Div(a, b)
	return result
}

// whole returns n as a fraction.
func whole(n int) frac.Frac {
	x, _ := frac.Of(n, 1)
	return x
}
