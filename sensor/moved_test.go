package sensor

import (
	"math"
	"math/big"
	"math/rand"
	"testing"

	"skymosaic/api"
)

// shifted is what P9.6 says for a row or a column, and false if a coefficient is out of range.
func shifted(num, den [20]int, shift int) (newNum, newDen [20]int, ok bool) {
	all := [2][20]*big.Int{}
	common := new(big.Int)
	for i := range num {
		move := new(big.Int).Mul(big.NewInt(int64(shift)), big.NewInt(int64(den[i])))
		all[0][i] = move.Add(move, new(big.Int).Mul(big.NewInt(256), big.NewInt(int64(num[i]))))
		all[1][i] = new(big.Int).Mul(big.NewInt(256), big.NewInt(int64(den[i])))
		for _, c := range all {
			common.GCD(nil, nil, common, new(big.Int).Abs(c[i]))
		}
	}
	for i := range num {
		for k, to := range []*int{&newNum[i], &newDen[i]} {
			n := new(big.Int).Quo(all[k][i], common)
			if n.CmpAbs(big.NewInt(1<<30)) > 0 {
				return [20]int{}, [20]int{}, false
			}
			*to = int(n.Int64())
		}
	}
	return newNum, newDen, true
}

// checkMoved checks a model that is moved (P9.6), and tells whether it is valid.
func checkMoved(t *testing.T, s api.Sensor, shift [2]int) bool {
	t.Helper()
	want, first := api.Sensor{Look: s.Look}, api.OK
	ok := [2]bool{}
	want.RowNum, want.RowDen, ok[0] = shifted(s.RowNum, s.RowDen, shift[0])
	want.ColNum, want.ColDen, ok[1] = shifted(s.ColNum, s.ColDen, shift[1])
	if ok != [2]bool{true, true} {
		want, first = api.Sensor{}, api.ErrRange
	}
	if got, e := Moved(s, shift); got != want || e != first {
		t.Fatalf("Moved(%v, %v) = %v, %d, want %v, %d", s, shift, got, e, want, first)
	}
	return first == api.OK
}

// moving is Moved without an error.
func moving(t *testing.T, s api.Sensor, shift [2]int) api.Sensor {
	t.Helper()
	m, e := Moved(s, shift)
	if e != api.OK {
		t.Fatalf("Moved(%v, %v) returns the error %d", s, shift, e)
	}
	return m
}

func randomShift(source *rand.Rand, most int) [2]int {
	return [2]int{source.Intn(2*most+1) - most, source.Intn(2*most+1) - most}
}

// P9.6.
func TestMoved(t *testing.T) {
	source := rand.New(rand.NewSource(7))
	valid := 0
	for range 1000 {
		checkMoved(t, randomModel(source, 3, 1<<30), randomShift(source, 1<<20))
		if checkMoved(t, randomModel(source, 3, 1<<21), randomShift(source, 256)) {
			valid++
		}
		checkMoved(t, randomModel(source, 1, 1000), randomShift(source, 1<<20))
		checkMoved(t, randomModel(source, source.Intn(4), 3), [2]int{256 * source.Intn(99), -64 * source.Intn(99)})
	}
	if valid < 100 {
		t.Errorf("only %d models can be moved", valid)
	}
}

// P9.6: common divisors of all coefficients are taken out, whether or not 256 has them, and signs stay.
func TestCommonDivisors(t *testing.T) {
	for _, v := range []struct {
		num, den [2]int
		shift    int
		wantNum  [2]int
		wantDen  [2]int
	}{
		{[2]int{0, 1}, [2]int{1, 0}, 0, [2]int{0, 1}, [2]int{1, 0}},
		{[2]int{0, 1}, [2]int{1, 0}, 256, [2]int{1, 1}, [2]int{1, 0}},
		{[2]int{0, 1}, [2]int{1, 0}, 128, [2]int{1, 2}, [2]int{2, 0}},
		{[2]int{0, 1}, [2]int{1, 0}, -3, [2]int{-3, 256}, [2]int{256, 0}},
		{[2]int{0, 1}, [2]int{-1, 0}, -3, [2]int{3, 256}, [2]int{-256, 0}},
		{[2]int{0, 21}, [2]int{7, 14}, 256, [2]int{1, 5}, [2]int{1, 2}},
		{[2]int{0, -21}, [2]int{-7, -14}, -1, [2]int{1, 2 - 768}, [2]int{-256, -512}},
		{[2]int{12, 18}, [2]int{30, 0}, 0, [2]int{2, 3}, [2]int{5, 0}},
		{[2]int{0, 0}, [2]int{5, 0}, 0, [2]int{0, 0}, [2]int{1, 0}},
		{[2]int{0, 0}, [2]int{-5, 0}, 0, [2]int{0, 0}, [2]int{-1, 0}},
		{[2]int{-1, 0}, [2]int{1, 0}, 256, [2]int{0, 0}, [2]int{1, 0}},
		{[2]int{0, 1}, [2]int{3, 0}, 512, [2]int{6, 1}, [2]int{3, 0}},
		{[2]int{0, 6}, [2]int{3, 0}, 512, [2]int{2, 2}, [2]int{1, 0}},
	} {
		fine := plain()
		s, want := fine, fine
		s.RowNum, s.RowDen = [20]int{0: v.num[0], 17: v.num[1]}, [20]int{0: v.den[0], 17: v.den[1]}
		want.RowNum, want.RowDen = [20]int{0: v.wantNum[0], 17: v.wantNum[1]}, [20]int{0: v.wantDen[0], 17: v.wantDen[1]}
		if got, e := Moved(s, [2]int{v.shift, 0}); got != want || e != api.OK {
			t.Errorf("Moved(%v, %d, 0) = %v, %d, want %v, OK", s, v.shift, got, e, want)
		}
		s, want = fine, fine
		s.ColNum, s.ColDen = [20]int{0: v.num[0], 17: v.num[1]}, [20]int{0: v.den[0], 17: v.den[1]}
		want.ColNum, want.ColDen = [20]int{0: v.wantNum[0], 17: v.wantNum[1]}, [20]int{0: v.wantDen[0], 17: v.wantDen[1]}
		if got, e := Moved(s, [2]int{0, v.shift}); got != want || e != api.OK {
			t.Errorf("Moved(%v, 0, %d) = %v, %d, want %v, OK", s, v.shift, got, e, want)
		}
	}
}

// P9.6: each coefficient of a row and of a column takes part, and Look stays.
func TestMovedMonomials(t *testing.T) {
	for i := range names {
		for k := range names {
			s := plain()
			s.Look = [3]int{-7, 1 << 30, 9}
			s.RowNum[i], s.RowDen[k] = 5, -3
			s.ColNum[k], s.ColDen[i] = 11, 4
			for _, shift := range [][2]int{{}, {1, 2}, {-255, 64}, {1 << 20, -1 << 20}} {
				if !checkMoved(t, s, shift) {
					t.Errorf("Moved(%v, %v) is valid", s, shift)
				}
			}
		}
	}
}

// P9.6: shifts at the limit and just beyond it, which is found ahead of coefficients that get out of range.
func TestLimitsOfShifts(t *testing.T) {
	great := plain()
	great.RowDen[0], great.ColDen[0] = 1<<30, 1<<30
	for _, n := range []int{1 << 20, -1 << 20} {
		for _, shift := range [][2]int{{n, 0}, {0, n}, {n, n}, {n, -n}} {
			if !checkMoved(t, plain(), shift) {
				t.Errorf("Moved by %v is valid", shift)
			}
			if checkMoved(t, great, shift) {
				t.Errorf("Moved(%v, %v) is not valid", great, shift)
			}
		}
	}
	for _, n := range []int{1<<20 + 1, -1<<20 - 1, math.MaxInt, math.MinInt} {
		for _, shift := range [][2]int{{n, 0}, {0, n}, {n, n}, {n, -n}, {1 << 20, n}} {
			for _, s := range []api.Sensor{plain(), great} {
				if got, e := Moved(s, shift); e != api.ErrArg || got != (api.Sensor{}) {
					t.Errorf("Moved(%v, %v) = %v, %d, want zeros, ErrArg", s, shift, got, e)
				}
			}
		}
	}
}

// P9.6: coefficients at the limit and just beyond it, before and after they are divided, in rows and columns.
func TestLimitsOfMovedCoefficients(t *testing.T) {
	for _, v := range []struct {
		num, den [2]int
		shift    int
		want     api.Errno
	}{
		{[2]int{1<<30 - 1, 1}, [2]int{1, 0}, 256, api.OK},
		{[2]int{1 << 30, 1}, [2]int{1, 0}, 256, api.ErrRange},
		{[2]int{1 - 1<<30, 1}, [2]int{1, 0}, -256, api.OK},
		{[2]int{-1 << 30, 1}, [2]int{1, 0}, -256, api.ErrRange},
		{[2]int{1 << 30, 1}, [2]int{-1, 0}, 256, api.OK},
		{[2]int{0, 1}, [2]int{0, 1 << 22}, 1, api.OK},
		{[2]int{0, 1}, [2]int{0, 1<<22 + 1}, 1, api.ErrRange},
		{[2]int{0, 1}, [2]int{0, -1<<22 - 1}, 1, api.ErrRange},
		{[2]int{0, 1 << 22}, [2]int{1, 0}, 1, api.OK},
		{[2]int{0, 1<<22 + 1}, [2]int{1, 0}, 1, api.ErrRange},
		{[2]int{0, 1 << 30}, [2]int{1 << 30, 0}, 1 << 20, api.OK},
		{[2]int{0, 1<<30 - 1}, [2]int{1 << 30, 0}, 1 << 20, api.ErrRange},
		{[2]int{0, 3 << 12}, [2]int{1 << 30, 0}, 1 << 20, api.OK},
		{[2]int{0, 3 << 11}, [2]int{1 << 30, 0}, 1 << 20, api.ErrRange},
		{[2]int{1 << 30, 1}, [2]int{1 << 30, -1 << 30}, 0, api.OK},
		{[2]int{1 << 30, -1 << 30}, [2]int{-1 << 30, 1 << 30}, -1 << 20, api.OK},
	} {
		num, den := [20]int{0: v.num[0], 11: v.num[1]}, [20]int{0: v.den[0], 11: v.den[1]}
		s, other := plain(), plain()
		s.RowNum, s.RowDen, other.ColNum, other.ColDen = num, den, num, den
		if ok := checkMoved(t, s, [2]int{v.shift, 0}); ok != (v.want == api.OK) {
			t.Errorf("Moved(%v, %d, 0) is valid: %t", s, v.shift, ok)
		}
		if ok := checkMoved(t, other, [2]int{0, v.shift}); ok != (v.want == api.OK) {
			t.Errorf("Moved(%v, 0, %d) is valid: %t", other, v.shift, ok)
		}
	}
}

// P9.10.
func TestProjectOfMoved(t *testing.T) {
	source := rand.New(rand.NewSource(8))
	for range 500 {
		s, at := randomModel(source, 3, 500), randomPoint(source, 20)
		row, col, ok := imageOf(s, at)
		if !ok {
			continue
		}
		for _, shift := range [][2]int{{}, randomShift(source, 1<<20), randomShift(source, 300)} {
			m := moving(t, s, shift)
			newRow, newCol, e := Project(m, fracOf(at[0]), fracOf(at[1]), fracOf(at[2]))
			wantRow := new(big.Rat).Add(row, big.NewRat(int64(shift[0]), 256))
			wantCol := new(big.Rat).Add(col, big.NewRat(int64(shift[1]), 256))
			if e != api.OK || ratOf(newRow).Cmp(wantRow) != 0 || ratOf(newCol).Cmp(wantCol) != 0 {
				t.Fatalf("Moved(%v, %v) has at %v %v, %v, %d, want %v, %v, OK", s, shift, at, newRow, newCol, e, wantRow, wantCol)
			}
		}
	}
}

// P9.10.
func TestMovedAndBack(t *testing.T) {
	source := rand.New(rand.NewSource(9))
	for range 500 {
		s, shift := randomModel(source, 3, 50), randomShift(source, 1<<16)
		there := moving(t, s, shift)
		if back, want := moving(t, there, [2]int{-shift[0], -shift[1]}), moving(t, s, [2]int{}); back != want {
			t.Fatalf("Moved(%v, %v) and back is %v, want %v", s, shift, back, want)
		}
	}
}
