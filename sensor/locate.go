package sensor

import (
	"skymosaic/api"
	"skymosaic/frac"
	"skymosaic/poly"
)

// maxDigits is the greatest number of digits of a row or a column that is located. The numbers of lines then have
// numerators of at most 351 digits and denominators of at most 256, and the coordinates where two lines cross at most 639
// digits, so that no fraction on the way is out of range, and polynomials can be evaluated at the result.
const maxDigits = 256

// line is the points of the ground where line[0] x + line[1] y + line[2] is 0.
type line [3]frac.Frac

// Locate returns the only ground point of a height that a sensor of degree 1 sees at a row and a column.
func Locate(s api.Sensor, row, col frac.Frac, h int) (x, y frac.Frac, e api.Errno) {
	if e = Valid(s); e != api.OK {
		return frac.Frac{}, frac.Frac{}, e
	}
	for _, c := range polynomials(&s) {
		if poly.Degree(*c) > 1 {
			return frac.Frac{}, frac.Frac{}, api.ErrArg
		}
	}
	if max(poly.Digits(row), poly.Digits(col)) > maxDigits {
		return frac.Frac{}, frac.Frac{}, api.ErrLimit
	}
	height := whole(h)
	x, y, ok := crossing(lineOf(s.RowNum, s.RowDen, row, height), lineOf(s.ColNum, s.ColDen, col, height))
	if !ok {
		return frac.Frac{}, frac.Frac{}, api.ErrFlat
	}
	if isZero(s.RowDen, x, y, height) || isZero(s.ColDen, x, y, height) {
		return frac.Frac{}, frac.Frac{}, api.ErrZero
	}
	return x, y, api.OK
}

// lineOf returns the points of a height where num is as much as ratio times den. Both have degree 1.
func lineOf(num, den [20]int, ratio, height frac.Frac) line {
	return line{
		difference(whole(num[1]), product(ratio, whole(den[1]))),
		difference(whole(num[2]), product(ratio, whole(den[2]))),
		difference(valueAbove(num, height), product(ratio, valueAbove(den, height))),
	}
}

// valueAbove returns the value of a polynomial where x and y are 0.
func valueAbove(c [20]int, height frac.Frac) frac.Frac {
	return value(c, frac.Frac{}, frac.Frac{}, height)
}

// crossing returns the only point of two lines, and false if there is not exactly one. It is the cross product of the
// lines, in homogeneous coordinates, which is divided by its last number.
func crossing(a, b line) (x, y frac.Frac, ok bool) {
	below := minor(a, b, 0, 1)
	if frac.Sign(below) == 0 {
		return frac.Frac{}, frac.Frac{}, false
	}
	x, _ = frac.Div(minor(a, b, 1, 2), below)
	y, _ = frac.Div(minor(a, b, 2, 0), below)
	return x, y, true
}

// minor is a number of the cross product of two lines.
func minor(a, b line, i, j int) frac.Frac {
	return difference(product(a[i], b[j]), product(a[j], b[i]))
}

func isZero(c [20]int, x, y, h frac.Frac) bool {
	return frac.Sign(value(c, x, y, h)) == 0
}

// value returns the value of a polynomial at a point whose coordinates are not too long for package poly.
func value(c [20]int, x, y, h frac.Frac) frac.Frac {
	result, _ := poly.Eval(c, x, y, h)
	return result
}

// difference returns a - b, which is in the range of package frac.
func difference(a, b frac.Frac) frac.Frac {
	result, _ := frac.Sub(a, b)
	return result
}

// product returns a * b, which is in the range of package frac.
func product(a, b frac.Frac) frac.Frac {
	result, _ := frac.Mul(a, b)
	return result
}

// whole returns n as a fraction.
func whole(n int) frac.Frac {
	x, _ := frac.Of(n, 1)
	return x
}
