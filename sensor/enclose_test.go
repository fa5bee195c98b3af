package sensor

import (
	"math/big"
	"math/rand"
	"testing"

	"skymosaic/api"
	"skymosaic/frac"
	"skymosaic/ival"
	"skymosaic/poly"
)

func interval(t *testing.T, lo, hi *big.Rat) ival.Ival {
	t.Helper()
	x, e := ival.Make(fracOf(lo), fracOf(hi))
	if e != api.OK {
		t.Fatalf("Make(%v, %v) returns the error %d", lo, hi, e)
	}
	return x
}

// point returns the interval of one fraction, as far as rounding permits.
func point(t *testing.T, r *big.Rat) ival.Ival {
	t.Helper()
	return interval(t, r, r)
}

// steps is what P9.3 says, step by step, for a row or a column.
func steps(num, den [20]int, at [3]ival.Ival) (ival.Ival, api.Errno) {
	above, e := poly.Enclose(num, at[0], at[1], at[2])
	if e != api.OK {
		return ival.Ival{}, e
	}
	below, e := poly.Enclose(den, at[0], at[1], at[2])
	if e != api.OK {
		return ival.Ival{}, e
	}
	return ival.Div(above, below)
}

// checkEnclose checks the intervals of a row and a column (P9.3), and returns the error.
func checkEnclose(t *testing.T, s api.Sensor, at [3]ival.Ival) api.Errno {
	t.Helper()
	wantRow, first := steps(s.RowNum, s.RowDen, at)
	wantCol, second := steps(s.ColNum, s.ColDen, at)
	if first == api.OK {
		first = second
	}
	if first != api.OK {
		wantRow, wantCol = ival.Ival{}, ival.Ival{}
	}
	row, col, e := Enclose(s, at[0], at[1], at[2])
	if e != first || row.String() != wantRow.String() || col.String() != wantCol.String() {
		t.Fatalf("Enclose(%v, %.99v) = %.99v, %.99v, %d, want %.99v, %.99v, %d", s, at, row, col, e, wantRow, wantCol, first)
	}
	return e
}

// checkInside checks that the row and the column of a point in a box are in the intervals of the box (P9.8), as far as
// neither has an error, and tells whether that is so.
func checkInside(t *testing.T, s api.Sensor, box [3]ival.Ival, at [3]*big.Rat) bool {
	t.Helper()
	row, col, e1 := Project(s, fracOf(at[0]), fracOf(at[1]), fracOf(at[2]))
	rows, cols, e2 := Enclose(s, box[0], box[1], box[2])
	if e1 != api.OK || e2 != api.OK {
		return false
	}
	if !ival.Has(rows, row) || !ival.Has(cols, col) {
		t.Fatalf("Enclose(%v, %v) = %v, %v, without Project at %v, which is %v, %v", s, box, rows, cols, at, row, col)
	}
	return true
}

// randomBox returns intervals of at most a width, and a point in them.
func randomBox(t *testing.T, source *rand.Rand, digits int, most *big.Rat) (box [3]ival.Ival, inside [3]*big.Rat) {
	t.Helper()
	for axis := range box {
		lo, width := randomRat(source, digits), new(big.Rat).Mul(most, big.NewRat(int64(source.Intn(9)), 8))
		box[axis] = interval(t, lo, new(big.Rat).Add(lo, width))
		part := big.NewRat(int64(source.Intn(9)), 8)
		inside[axis] = new(big.Rat).Add(lo, part.Mul(part, width))
	}
	return box, inside
}

// P9.3 and P9.8.
func TestEnclose(t *testing.T) {
	source := rand.New(rand.NewSource(3))
	for _, most := range []*big.Rat{new(big.Rat), inverse(power2(40, 0)), inverse(power2(20, 0)), big.NewRat(1, 8), big.NewRat(5, 1)} {
		inside := 0
		for range 400 {
			s := randomModel(source, 3, []int{1 << 30, 100}[source.Intn(2)])
			s.RowDen[0], s.ColDen[0] = 1<<30-source.Intn(100), -1<<30+source.Intn(100)
			box, at := randomBox(t, source, []int{5, 12, 40}[source.Intn(3)], most)
			checkEnclose(t, s, box)
			if checkInside(t, s, box, at) {
				inside++
			}
		}
		if inside < 100 {
			t.Errorf("only %d of 400 points were compared for the width %v", inside, most)
		}
	}
}

// P9.3: the values of a point are intervals of one fraction each, as far as there is no rounding.
func TestEncloseOfPoints(t *testing.T) {
	s := sample(t)
	row, col, e := Enclose(s, point(t, big.NewRat(4, 1)), point(t, big.NewRat(6, 1)), point(t, big.NewRat(2, 1)))
	if row.String() != "[2, 2]" || col.String() != "[4, 4]" || e != api.OK {
		t.Errorf("Enclose = %v, %v, %d, want [2, 2], [4, 4], OK", row, col, e)
	}
	x, y, h := interval(t, big.NewRat(1, 1), big.NewRat(4, 1)), interval(t, big.NewRat(-6, 1), big.NewRat(6, 1)), ival.Ival{}
	row, col, e = Enclose(s, x, y, h)
	if row.String() != "[2, 8]" || col.String() != "[3/2, 3]" || e != api.OK {
		t.Errorf("Enclose = %v, %v, %d, want [2, 8], [3/2, 3], OK", row, col, e)
	}
}

// P9.3: each step has an error alone, and ahead of those of later steps.
func TestErrorsOfEnclose(t *testing.T) {
	around, one := interval(t, big.NewRat(-1, 1), big.NewRat(1, 1)), point(t, big.NewRat(1, 1))
	tiny := point(t, inverse(power2(32, 0)))
	huge := point(t, integer(power2(8150, 0)))
	box := [3]ival.Ival{around, huge, tiny}
	fine, zero, limit := term(5, ""), term(1, "x"), term(1, "yy")
	great, small := term(1, "y"), term(1, "h") // only their quotient is beyond the limit
	for _, v := range []struct {
		rowNum, rowDen, colNum, colDen [20]int
		want                           api.Errno
	}{
		{fine, fine, fine, fine, api.OK},
		{limit, zero, zero, zero, api.ErrLimit},
		{limit, fine, fine, fine, api.ErrLimit},
		{fine, limit, fine, fine, api.ErrLimit},
		{fine, limit, fine, zero, api.ErrLimit},
		{fine, zero, limit, limit, api.ErrZero},
		{fine, zero, fine, fine, api.ErrZero},
		{great, zero, fine, fine, api.ErrZero},
		{great, small, fine, zero, api.ErrLimit},
		{great, small, fine, fine, api.ErrLimit},
		{fine, fine, limit, zero, api.ErrLimit},
		{fine, fine, fine, limit, api.ErrLimit},
		{fine, fine, fine, zero, api.ErrZero},
		{fine, fine, great, small, api.ErrLimit},
	} {
		s := api.Sensor{RowNum: v.rowNum, RowDen: v.rowDen, ColNum: v.colNum, ColDen: v.colDen, Look: [3]int{0, 0, 1}}
		if e := checkEnclose(t, s, box); e != v.want {
			t.Errorf("Enclose(%v) returns the error %d, want %d", s, e, v.want)
		}
		if v.want == api.ErrZero {
			if e := checkEnclose(t, s, [3]ival.Ival{one, one, one}); e != api.OK {
				t.Errorf("Enclose(%v) at a point returns the error %d, want OK", s, e)
			}
		}
	}
}

// P9.3: an interval of a denominator may touch 0 only from afar.
func TestZerosOfIntervals(t *testing.T) {
	s := plain()
	s.RowDen, s.ColDen = term(1, "x"), term(1, "y")
	part := inverse(power2(32, 0))
	zero, one := new(big.Rat), big.NewRat(1, 1)
	near := interval(t, part, one)
	for _, v := range []struct {
		x    ival.Ival
		want api.Errno
	}{
		{near, api.OK},
		{interval(t, new(big.Rat).Neg(part), new(big.Rat).Neg(one)), api.OK},
		{interval(t, zero, one), api.ErrZero},
		{interval(t, new(big.Rat).Neg(one), zero), api.ErrZero},
		{interval(t, new(big.Rat).Neg(one), one), api.ErrZero},
		{ival.Ival{}, api.ErrZero},
	} {
		for _, box := range [][3]ival.Ival{{v.x, near, {}}, {near, v.x, {}}} {
			if e := checkEnclose(t, s, box); e != v.want {
				t.Errorf("Enclose at %v returns the error %d, want %d", box, e, v.want)
			}
		}
	}
	if row, col, e := Project(s, number("0"), number("1"), frac.Frac{}); e != api.ErrZero || row.String() != "0" || col.String() != "0" {
		t.Errorf("Project = %v, %v, %d, want 0, 0, ErrZero", row, col, e)
	}
}
