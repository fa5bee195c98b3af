package poly

import (
	"math"
	"math/big"
	"math/rand"
	"strings"
	"testing"

	"skymosaic/api"
)

// derivative returns the derivative of c with respect to a letter, by the product rule.
func derivative(c [20]int, letter string) terms {
	p := terms{}
	for name, n := range termsOf(c) {
		for at := range len(name) {
			if name[at:at+1] == letter {
				p.add(name[:at]+name[at+1:], n)
			}
		}
	}
	return p
}

// moved returns c at x - a, y - b, h - d, multiplied out factor by factor.
func moved(c [20]int, by [3]int) terms {
	total := terms{}
	for name, n := range termsOf(c) {
		product := terms{"": n}
		for _, letter := range name {
			next := terms{}
			for old, m := range product {
				next.add(old+string(letter), m)
				shift := new(big.Int).Neg(big.NewInt(int64(by[axisOf(letter)])))
				next.add(old, shift.Mul(shift, m))
			}
			product = next
		}
		for name, n := range product {
			total.add(name, n)
		}
	}
	return total
}

// checkGrad checks the derivatives of a valid polynomial (P8.4) and tells whether they are valid.
func checkGrad(t *testing.T, c [20]int) bool {
	t.Helper()
	want, first := [3][20]int{}, api.OK
	for axis, letter := range []string{"x", "y", "h"} {
		d, ok := derivative(c, letter).coefficients()
		if !ok {
			first = api.ErrRange
		}
		want[axis] = d
	}
	if first != api.OK {
		want = [3][20]int{}
	}
	if got, e := Grad(c); got != want || e != first {
		t.Fatalf("Grad(%v) = %v, %d, want %v, %d", c, got, e, want, first)
	}
	return first == api.OK
}

// checkShift checks a shifted polynomial (P8.4) and tells whether it is valid.
func checkShift(t *testing.T, c [20]int, a, b, d int) bool {
	t.Helper()
	want, ok := moved(c, [3]int{a, b, d}).coefficients()
	first := api.OK
	if !ok {
		first = api.ErrRange
	}
	if got, e := Shift(c, a, b, d); got != want || e != first {
		t.Fatalf("Shift(%v, %d, %d, %d) = %v, %d, want %v, %d", c, a, b, d, got, e, want, first)
	}
	return ok
}

// P8.4: each monomial, with derivatives at the limit of coefficients and just beyond it.
func TestGradOfMonomials(t *testing.T) {
	checkGrad(t, [20]int{})
	for i, name := range names {
		for _, n := range []int{1, -7, 1 << 30, -1 << 30} {
			checkGrad(t, one(i, n))
		}
		most := 1
		for _, letter := range []string{"x", "y", "h"} {
			most = max(most, strings.Count(name, letter))
		}
		limit := (1 << 30) / most
		for _, sign := range []int{-1, 1} {
			if !checkGrad(t, one(i, sign*limit)) {
				t.Errorf("the derivatives of %d %q are valid", sign*limit, name)
			}
			if most > 1 && checkGrad(t, one(i, sign*(limit+1))) {
				t.Errorf("not all derivatives of %d %q are valid", sign*(limit+1), name)
			}
		}
	}
}

// P8.4.
func TestGradOfRandomPolynomials(t *testing.T) {
	source := rand.New(rand.NewSource(12))
	for range 500 {
		checkGrad(t, randomPoly(source, 1<<30))
		checkGrad(t, randomPoly(source, 1<<28))
		checkGrad(t, randomPoly(source, 20))
	}
}

// P8.4: each monomial, with each coordinate shifted alone and all together.
func TestShiftOfMonomials(t *testing.T) {
	for i := range names {
		for _, n := range []int{1, -3, 1 << 30, -1 << 30} {
			c := one(i, n)
			for _, by := range [][3]int{{}, {1, 0, 0}, {0, 1, 0}, {0, 0, 1}, {2, 3, 5}, {-2, 3, -5}, {300, -200, 100}, {1000, 1, 1 << 20}} {
				checkShift(t, c, by[0], by[1], by[2])
			}
		}
	}
}

// P8.4.
func TestShiftOfRandomPolynomials(t *testing.T) {
	source := rand.New(rand.NewSource(13))
	valid := 0
	for range 500 {
		checkShift(t, randomPoly(source, 1<<30), source.Intn(5)-2, source.Intn(5)-2, source.Intn(5)-2)
		if checkShift(t, randomPoly(source, 1000), source.Intn(201)-100, source.Intn(201)-100, source.Intn(201)-100) {
			valid++
		}
	}
	if valid < 100 {
		t.Errorf("only %d polynomials can be shifted", valid)
	}
}

// P8.4: coefficients at the limit and just beyond it, also where only one on the way would be beyond it.
func TestLimitsOfShift(t *testing.T) {
	x, xx := indexOf("x"), indexOf("xx")
	line := func(n, m int) (c [20]int) {
		c[0], c[x] = n, m
		return c
	}
	for _, v := range []struct {
		c    [20]int
		by   int
		want api.Errno
	}{
		{line(0, 1), 1 << 30, api.OK},
		{line(0, 1), -1 << 30, api.OK},
		{line(0, 1), 1<<30 + 1, api.ErrRange},
		{line(0, 1), -1<<30 - 1, api.ErrRange},
		{line(1<<30, 1), 1 << 31, api.OK},
		{line(1<<30, 1), 1<<31 + 1, api.ErrRange},
		{line(1<<30, 1), -1, api.ErrRange},
		{line(-1<<30, -1), 1, api.OK},
		{line(-1<<30, 1), 1, api.ErrRange},
		{one(xx, 1), 1 << 15, api.OK},
		{one(xx, 1), 1<<15 + 1, api.ErrRange},
		{one(xx, 1<<29), -1, api.OK},
		{one(xx, 1<<29+1), 1, api.ErrRange},
		{one(indexOf("xxx"), 357913941), 1, api.OK},
		{one(indexOf("xxx"), 357913942), 1, api.ErrRange},
	} {
		if ok := checkShift(t, v.c, v.by, 0, 0); ok != (v.want == api.OK) {
			t.Errorf("Shift(%v, %d, 0, 0) is valid: %t", v.c, v.by, ok)
		}
	}
}

// P8.4: shifts for which ints overflow, some to valid coefficients.
func TestShiftByGreatNumbers(t *testing.T) {
	great := []int{1 << 21, 1 << 22, 1 << 31, 1 << 32, 1 << 62, math.MaxInt, math.MinInt, math.MinInt + 1}
	for i, name := range names {
		for _, n := range great {
			for axis, letter := range []string{"x", "y", "h"} {
				by := [3]int{}
				by[axis] = n
				valid := checkShift(t, one(i, 4), by[0], by[1], by[2])
				if !strings.Contains(name, letter) && !valid {
					t.Errorf("%q does not change if %s is shifted", name, letter)
				}
			}
			checkShift(t, one(i, 1), n, n, n)
			checkShift(t, one(i, 1<<30), n, n, n)
		}
	}
}

// P8.9: Taylor's theorem, along each axis, with the derivatives of Grad.
func TestTaylor(t *testing.T) {
	source := rand.New(rand.NewSource(14))
	for range 200 {
		c, at, step := randomPoly(source, 1<<26), randomPoint(source, 30), randomRat(source, 30)
		for axis := range 3 {
			total, factor, d := new(big.Rat), big.NewRat(1, 1), c
			for n := range 4 {
				v, e := Eval(d, fracOf(at[0]), fracOf(at[1]), fracOf(at[2]))
				if e != api.OK {
					t.Fatalf("Eval(%v) returns the error %d", d, e)
				}
				total.Add(total, new(big.Rat).Mul(factor, ratOf(v)))
				factor.Mul(factor, step).Mul(factor, big.NewRat(1, int64(n+1)))
				gradient, e := Grad(d)
				if e != api.OK {
					t.Fatalf("Grad(%v) returns the error %d", d, e)
				}
				d = gradient[axis]
			}
			further := at
			further[axis] = new(big.Rat).Add(at[axis], step)
			v, e := Eval(c, fracOf(further[0]), fracOf(further[1]), fracOf(further[2]))
			if e != api.OK || ratOf(v).Cmp(total) != 0 {
				t.Fatalf("Eval(%v) at %v + %v in place %d is %v, %d, want %v, OK", c, at, step, axis, v, e, total)
			}
		}
	}
}

// P8.10.
func TestShiftAndBack(t *testing.T) {
	source := rand.New(rand.NewSource(15))
	for range 500 {
		c := randomPoly(source, 1000)
		a, b, d := source.Intn(101)-50, source.Intn(101)-50, source.Intn(101)-50
		shifted, e := Shift(c, a, b, d)
		if e != api.OK {
			t.Fatalf("Shift(%v, %d, %d, %d) returns the error %d", c, a, b, d, e)
		}
		if Degree(shifted) != Degree(c) {
			t.Fatalf("Shift(%v, %d, %d, %d) = %v, which has another degree", c, a, b, d, shifted)
		}
		if back, e := Shift(shifted, -a, -b, -d); back != c || e != api.OK {
			t.Fatalf("Shift(%v, %d, %d, %d) and back is %v, %d", c, a, b, d, back, e)
		}
	}
}

// P8.4 and P8.8: values of shifted polynomials and of sums.
func TestValuesOfShiftsAndSums(t *testing.T) {
	source := rand.New(rand.NewSource(16))
	for range 300 {
		c, other, at := randomPoly(source, 500), randomPoly(source, 1<<29), randomPoint(source, 40)
		by := [3]int{source.Intn(21) - 10, source.Intn(21) - 10, source.Intn(21) - 10}
		shifted, e := Shift(c, by[0], by[1], by[2])
		if e != api.OK {
			t.Fatalf("Shift(%v, %v) returns the error %d", c, by, e)
		}
		before, sum := at, [20]int{}
		for axis := range before {
			before[axis] = new(big.Rat).Sub(at[axis], big.NewRat(int64(by[axis]), 1))
		}
		for i := range sum {
			sum[i] = c[i] + other[i]
		}
		if got, want := evaluated(t, shifted, at), evaluated(t, c, before); got.Cmp(want) != 0 {
			t.Fatalf("Shift(%v, %v) has the value %v at %v, want %v", c, by, got, at, want)
		}
		want := new(big.Rat).Add(evaluated(t, c, at), evaluated(t, other, at))
		if got := evaluated(t, sum, at); got.Cmp(want) != 0 {
			t.Fatalf("the sum of %v and %v has the value %v at %v, want %v", c, other, got, at, want)
		}
	}
}

// evaluated is the result of Eval.
func evaluated(t *testing.T, c [20]int, at [3]*big.Rat) *big.Rat {
	t.Helper()
	v, e := Eval(c, fracOf(at[0]), fracOf(at[1]), fracOf(at[2]))
	if e != api.OK {
		t.Fatalf("Eval(%v, %v) returns the error %d", c, at, e)
	}
	return ratOf(v)
}
