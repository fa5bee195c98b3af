package sensor

import (
	"math"
	"math/big"
	"math/rand"
	"testing"

	"skymosaic/api"
	"skymosaic/frac"
	"skymosaic/poly"
)

// off returns by how much num misses ratio times den at a point.
func off(num, den [20]int, ratio *big.Rat, at [3]*big.Rat) *big.Rat {
	miss := new(big.Rat).Mul(ratio, exactly(den, at))
	return miss.Sub(exactly(num, at), miss)
}

// located is the result of P9.5 for a valid model of degree 1: the equations are set up by their values at three points,
// and solved by elimination.
func located(s api.Sensor, ratios [2]*big.Rat, h int) (x, y *big.Rat, e api.Errno) {
	zero, one, height := new(big.Rat), big.NewRat(1, 1), new(big.Rat).SetInt64(int64(h))
	rows := [2][3]*big.Rat{} // x and y with these factors have this sum
	for i, c := range [2][2][20]int{{s.RowNum, s.RowDen}, {s.ColNum, s.ColDen}} {
		start := off(c[0], c[1], ratios[i], [3]*big.Rat{zero, zero, height})
		for axis, at := range [2][3]*big.Rat{{one, zero, height}, {zero, one, height}} {
			rows[i][axis] = new(big.Rat).Sub(off(c[0], c[1], ratios[i], at), start)
		}
		rows[i][2] = start.Neg(start)
	}
	if rows[0][0].Sign() == 0 {
		rows[0], rows[1] = rows[1], rows[0]
	}
	if rows[0][0].Sign() == 0 {
		return zero, zero, api.ErrFlat
	}
	factor := new(big.Rat).Quo(rows[1][0], rows[0][0])
	for i := range rows[1] {
		rows[1][i] = new(big.Rat).Sub(rows[1][i], new(big.Rat).Mul(factor, rows[0][i]))
	}
	if rows[1][1].Sign() == 0 {
		return zero, zero, api.ErrFlat
	}
	y = new(big.Rat).Quo(rows[1][2], rows[1][1])
	x = new(big.Rat).Sub(rows[0][2], new(big.Rat).Mul(rows[0][1], y))
	x.Quo(x, rows[0][0])
	if at := [3]*big.Rat{x, y, height}; exactly(s.RowDen, at).Sign() == 0 || exactly(s.ColDen, at).Sign() == 0 {
		return zero, zero, api.ErrZero
	}
	return x, y, api.OK
}

// checkLocate checks a point (P9.5), and that Project leads back from it (P9.9), and returns the error.
func checkLocate(t *testing.T, s api.Sensor, row, col *big.Rat, h int) api.Errno {
	t.Helper()
	wantX, wantY, want := located(s, [2]*big.Rat{row, col}, h)
	x, y, e := Locate(s, fracOf(row), fracOf(col), h)
	if e != want || x.String() != wantX.RatString() || y.String() != wantY.RatString() {
		t.Fatalf("Locate(%v, %v, %v, %d) = %v, %v, %d, want %v, %v, %d", s, row, col, h, x, y, e, wantX, wantY, want)
	}
	if e != api.OK {
		return e
	}
	height, _ := frac.Of(h, 1)
	r, c, e := Project(s, x, y, height)
	if e != api.OK || ratOf(r).Cmp(row) != 0 || ratOf(c).Cmp(col) != 0 {
		t.Fatalf("Project(%v) of Locate for %v, %v, %d is %v, %v, %d", s, row, col, h, r, c, e)
	}
	return api.OK
}

// P9.5 and P9.9.
func TestLocate(t *testing.T) {
	source := rand.New(rand.NewSource(4))
	count := map[api.Errno]int{}
	for range 1500 {
		s := randomModel(source, 1, 1<<30)
		count[checkLocate(t, s, randomRat(source, 20), randomRat(source, 20), source.Intn(1<<15)-1<<14)]++
		s = randomModel(source, 1, 2)
		row, col := big.NewRat(int64(source.Intn(5)-2), 1), big.NewRat(int64(source.Intn(5)-2), 1)
		count[checkLocate(t, s, row, col, source.Intn(5)-2)]++
	}
	for _, e := range []api.Errno{api.OK, api.ErrFlat, api.ErrZero} {
		if count[e] < 50 {
			t.Errorf("only %d calls return the error %d", count[e], e)
		}
	}
}

// P9.9: Locate leads back from what Project returns.
func TestProjectAndBack(t *testing.T) {
	source := rand.New(rand.NewSource(5))
	back := 0
	for range 1000 {
		s, at := randomModel(source, 1, []int{1 << 30, 5}[source.Intn(2)]), randomPoint(source, 15)
		h := source.Intn(201) - 100
		at[2] = big.NewRat(int64(h), 1)
		if !checkProject(t, s, at) {
			continue
		}
		row, col, _ := imageOf(s, at)
		x, y, e := Locate(s, fracOf(row), fracOf(col), h)
		if e == api.ErrFlat && x.String() == "0" && y.String() == "0" {
			continue
		}
		if e != api.OK || ratOf(x).Cmp(at[0]) != 0 || ratOf(y).Cmp(at[1]) != 0 {
			t.Fatalf("Locate(%v) of Project at %v is %v, %v, %d", s, at, x, y, e)
		}
		back++
	}
	if back < 600 {
		t.Errorf("only %d points were located", back)
	}
}

// P9.5: heights of all sizes, with the greatest coefficients, rows and columns.
func TestGreatestLines(t *testing.T) {
	most, source := 0, rand.New(rand.NewSource(6))
	some := []int{1 << 30, -1 << 30, 1<<30 - 1, 1 - 1<<30}
	for _, h := range []int{0, 1, -1, math.MaxInt, math.MinInt, 1 << 62} {
		for range 100 {
			s := plain()
			for _, part := range parts {
				for i := range 4 {
					part.of(&s)[i] = some[source.Intn(len(some))]
				}
			}
			ratios := [2]*big.Rat{}
			for i := range ratios {
				ratios[i] = new(big.Rat).SetFrac(power2(256, -1-int64(source.Intn(9))), power2(256, -1-int64(source.Intn(9))))
				if source.Intn(2) == 0 {
					ratios[i].Neg(ratios[i])
				}
			}
			if checkLocate(t, s, ratios[0], ratios[1], h) == api.OK {
				x, y, _ := Locate(s, fracOf(ratios[0]), fracOf(ratios[1]), h)
				most = max(most, poly.Digits(x), poly.Digits(y))
			}
		}
	}
	if most > 639 || most < 636 {
		t.Errorf("coordinates have up to %d digits, want up to 639", most)
	}
}

// noPoint checks the error of Locate, and that there is no point.
func noPoint(t *testing.T, s api.Sensor, row, col frac.Frac, h int, want api.Errno) {
	t.Helper()
	if x, y, e := Locate(s, row, col, h); e != want || x.String() != "0" || y.String() != "0" {
		t.Errorf("Locate(%v, %.50v, %.50v, %d) = %v, %v, %d, want 0, 0, %d", s, row, col, h, x, y, e, want)
	}
}

// P9.5: each monomial in each polynomial. A degree that is too great is found ahead of digits that are too many, and of
// lines that do not cross.
func TestDegreesOfLocate(t *testing.T) {
	long, one := fracOf(integer(power2(256, 0))), number("1")
	for _, part := range parts {
		for i, name := range names {
			for _, n := range []int{1, -1, 1 << 30} {
				s := plain()
				part.of(&s)[i] = n
				if len(name) < 2 {
					checkLocate(t, s, big.NewRat(5, 1), big.NewRat(7, 2), 3)
					continue
				}
				noPoint(t, s, one, one, 3, api.ErrArg)
				noPoint(t, s, long, long, 0, api.ErrArg)
				s.RowNum[2], s.ColNum[1] = 0, 0
				noPoint(t, s, one, one, 0, api.ErrArg)
			}
		}
	}
}

// P9.5: digits above and below, of the row and of the column, which come ahead of lines that do not cross.
func TestLimitOfDigitsOfLocate(t *testing.T) {
	allowed := []*big.Rat{
		integer(power2(256, -1)), integer(new(big.Int).Neg(power2(256, -1))), inverse(power2(256, -1)), inverse(power2(255, 0)),
		new(big.Rat).SetFrac(power2(256, -1), power2(255, 0)),
	}
	tooLong := []*big.Rat{
		integer(power2(256, 0)), integer(new(big.Int).Neg(power2(256, 0))), inverse(power2(256, 0)), inverse(power2(257, -1)),
		new(big.Rat).SetFrac(power2(256, -1), power2(256, 0)), integer(power2(16384, -1)),
	}
	flat := plain()
	flat.RowNum = flat.ColNum
	other := big.NewRat(7, 3)
	for _, r := range allowed {
		for _, h := range []int{0, -9} {
			if e := checkLocate(t, sample(t), r, other, h); e != api.OK {
				t.Errorf("Locate for the row %v returns the error %d, want OK", r, e)
			}
			if e := checkLocate(t, sample(t), other, r, h); e != api.OK {
				t.Errorf("Locate for the column %v returns the error %d, want OK", r, e)
			}
		}
		noPoint(t, flat, fracOf(r), fracOf(other), 1, api.ErrFlat)
	}
	for _, r := range tooLong {
		for _, s := range []api.Sensor{sample(t), flat} {
			noPoint(t, s, fracOf(r), fracOf(other), 1, api.ErrLimit)
			noPoint(t, s, fracOf(other), fracOf(r), 1, api.ErrLimit)
			noPoint(t, s, fracOf(r), fracOf(r), 1, api.ErrLimit)
		}
	}
}

// P9.5: lines that are parallel, the same, or none, and denominators that are 0 where lines cross.
func TestFlatAndZeroLines(t *testing.T) {
	x, y, h, one, none := term(1, "x"), term(1, "y"), term(1, "h"), term(1, ""), [20]int{}
	both := [20]int{1: 1, 2: 1}
	for _, v := range []struct {
		rowNum, rowDen, colNum, colDen [20]int
		row, col                       string
		h                              int
		want                           api.Errno
	}{
		{y, one, x, one, "3", "1/2", 5, api.OK},
		{x, one, y, one, "3", "1/2", 5, api.OK},
		{x, one, x, one, "3", "1/2", 5, api.ErrFlat},
		{x, one, x, one, "3", "3", 5, api.ErrFlat},
		{both, one, both, one, "1", "1", 0, api.ErrFlat},
		{both, one, both, one, "1", "2", 0, api.ErrFlat},
		{both, one, x, one, "0", "0", 0, api.OK},
		{none, one, x, one, "0", "0", 0, api.ErrFlat},
		{x, one, none, one, "0", "0", 0, api.ErrFlat},
		{h, one, h, one, "5", "5", 5, api.ErrFlat},
		{one, one, one, one, "1", "1", 5, api.ErrFlat},
		{x, x, y, one, "1", "2", 5, api.ErrFlat},
		{x, x, y, one, "2", "2", 5, api.ErrZero},
		{x, one, y, y, "2", "0", 5, api.ErrZero},
		{x, one, y, y, "2", "1", 5, api.ErrFlat},
		{x, h, y, one, "7", "2", 0, api.ErrZero},
		{x, h, y, one, "7", "2", 1, api.OK},
		{x, one, y, h, "7", "2", 0, api.ErrZero},
		{x, one, y, h, "7", "2", -1, api.OK},
		{x, h, y, h, "7", "2", 0, api.ErrZero},
		{x, h, x, one, "7", "2", 0, api.ErrFlat},
		{h, h, h, h, "7", "2", 0, api.ErrFlat},
		{x, y, y, one, "2", "0", 3, api.ErrZero},
		{x, y, y, one, "2", "3", 3, api.OK},
		{x, one, y, x, "0", "3", 3, api.ErrZero},
		{one, x, one, y, "2", "-3", 3, api.OK},
	} {
		s := api.Sensor{RowNum: v.rowNum, RowDen: v.rowDen, ColNum: v.colNum, ColDen: v.colDen, Look: [3]int{0, 0, 1}}
		if e := checkLocate(t, s, ratOf(number(v.row)), ratOf(number(v.col)), v.h); e != v.want {
			t.Errorf("Locate(%v, %s, %s, %d) returns the error %d, want %d", s, v.row, v.col, v.h, e, v.want)
		}
	}
}
