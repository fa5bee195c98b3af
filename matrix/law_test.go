package matrix_test

import (
	"math/big"
	"math/rand"
	"slices"
	"testing"

	"skymosaic/api"
	"skymosaic/frac"
	"skymosaic/matrix"
)

// moderate are kinds for matrices of up to 30 rows.
func moderate(source *rand.Rand) kind {
	return kinds()[:4][source.Intn(4)]
}

// multiplied is the product of two matrices, which has to be in range.
func multiplied(t *testing.T, a, b matrix.Matrix) matrix.Matrix {
	t.Helper()
	m, e := matrix.Mul(a, b)
	if e != api.OK {
		t.Fatalf("Mul returns the error %d", e)
	}
	return m
}

func turned(t *testing.T, m matrix.Matrix) matrix.Matrix {
	t.Helper()
	result, e := matrix.Transpose(m)
	if e != api.OK {
		t.Fatalf("Transpose returns the error %d", e)
	}
	return result
}

// P14.8.
func TestSolutions(t *testing.T) {
	source := rand.New(rand.NewSource(40))
	solved := 0
	for range 150 {
		rows, columns := source.Intn(20)+1, source.Intn(20)+1
		g := randomOfRank(source, rows, columns, source.Intn(25), moderate(source))
		m := g.matrix()
		rank, e := matrix.Rank(m)
		other, e2 := matrix.Rank(turned(t, m))
		if e != api.OK || e2 != api.OK || rank != other {
			t.Fatalf("the ranks of %v are %d, error %d, and %d, error %d", g, rank, e, other, e2)
		}
		null, e := matrix.Null(m)
		if e != api.OK || len(null) != columns-rank {
			t.Fatalf("%v has the rank %d and %d solutions, error %d", g, rank, len(null), e)
		}
		solutions := grid{}
		for _, solution := range null {
			solutions = append(solutions, rationals(solution))
		}
		for _, solution := range solutions {
			if slices.ContainsFunc(g.times(solution), func(x *big.Rat) bool { return x.Sign() != 0 }) {
				t.Fatalf("%v is no solution for %v", solution, g)
			}
		}
		if len(null) > 0 {
			if _, pivots := solutions.reduced(); len(pivots) != len(null) {
				t.Fatalf("%v: the solutions %v depend on each other", g, solutions)
			}
		}
		if rank < columns {
			continue
		}
		b := g.times(randomGrid(source, 1, columns, moderate(source))[0])
		x, e := matrix.Solve(m, fractions(b))
		if e == api.ErrLimit && g.isTooLarge(b...) {
			continue
		}
		if e != api.OK || !areEqual(g.times(rationals(x)), b) {
			t.Fatalf("Solve(%v, %v) = %v, %d", g, b, x, e)
		}
		solved++
	}
	if solved < 20 {
		t.Errorf("only %d systems were solved", solved)
	}
}

// P14.9.
func TestDeterminants(t *testing.T) {
	source := rand.New(rand.NewSource(41))
	zeros := 0
	for range 300 {
		n := source.Intn(9) + 1
		a, b := randomOfRank(source, n, n, source.Intn(2*n+2), moderate(source)).matrix(), randomGrid(source, n, n, moderate(source)).matrix()
		product := multiplied(t, a, b)
		first, e1 := matrix.Det(a)
		second, e2 := matrix.Det(b)
		both, e3 := matrix.Det(product)
		if e1 != api.OK || e2 != api.OK || e3 != api.OK || rational(both).Cmp(times(rational(first), rational(second))) != 0 {
			t.Fatalf("the determinants are %v and %v, that of the product %v, errors %d, %d, %d", first, second, both, e1, e2, e3)
		}
		rank, _ := matrix.Rank(a)
		if (rank < n) != (frac.Sign(first) == 0) {
			t.Fatalf("%v has the rank %d and the determinant %v", gridOf(t, a), rank, first)
		}
		if other, e := matrix.Det(turned(t, a)); e != api.OK || frac.Compare(other, first) != 0 {
			t.Fatalf("the determinants of %v and of the transposed matrix are %v and %v, error %d", gridOf(t, a), first, other, e)
		}
		if rank < n {
			zeros++
		}
	}
	if zeros < 30 || zeros > 270 {
		t.Errorf("%d of the determinants are 0", zeros)
	}
}

// P14.9: the greatest determinants, which systems of integers of that size have.
func TestTheGreatestDeterminant(t *testing.T) {
	for _, c := range []struct{ n, bits int }{{1, 6996}, {2, 3496}, {4, 1746}, {8, 871}, {16, 433}, {32, 214}} {
		x := whole(power(uint(c.bits), -1))
		g := gridOfInts(sylvester(c.n, 1))
		for _, row := range g {
			for j := range row {
				row[j] = times(row[j], x)
			}
		}
		want := number(1)
		for range c.n {
			want = times(want, x)
		}
		// The determinant of the signs alone doubles its sides with the factor (-2)^n.
		for n := 1; n < c.n; n *= 2 {
			signs, _ := matrix.Det(gridOfInts(sylvester(2*n, 1)).matrix())
			if n == c.n/2 {
				want = times(want, rational(signs))
			}
			if s := new(big.Int).Abs(rational(signs).Num()); s.Cmp(new(big.Int).Exp(big.NewInt(int64(2*n)), big.NewInt(int64(n)), nil)) != 0 {
				t.Errorf("the determinant of %d rows of signs is %v", 2*n, signs)
			}
		}
		if det, e := matrix.Det(g.matrix()); e != api.OK || rational(det).Cmp(want) != 0 {
			t.Errorf("%d rows of %d bits: the error is %d", c.n, c.bits, e)
		}
		b := g[c.n-1]
		if x, e := matrix.Solve(g.matrix(), fractions(b)); e != api.OK || !areEqual(g.times(rationals(x)), b) {
			t.Errorf("%d rows of %d bits: Solve returns the error %d", c.n, c.bits, e)
		}
		g[c.n-1] = g[0]
		null, e := matrix.Null(g.matrix())
		if e != api.OK || c.n > 1 && (len(null) != 1 || slices.ContainsFunc(g.times(rationals(null[0])), func(x *big.Rat) bool { return x.Sign() != 0 })) {
			t.Errorf("%d rows of %d bits: Null returns %d solutions and the error %d", c.n, c.bits, len(null), e)
		}
	}
}

// P14.2 and P14.8: fractions with great denominators: a Hilbert matrix has the inverse with integers only.
func TestHilbert(t *testing.T) {
	for n := 1; n <= 25; n++ {
		g := filled(n, n, func(i, j int) *big.Rat { return ratio(1, i+j+1) })
		for column := 0; column < n; column += 7 {
			b := filled(1, n, func(_, j int) *big.Rat { return number(1 - min(1, max(j-column, column-j))) })[0]
			x, e := matrix.Solve(g.matrix(), fractions(b))
			if e != api.OK || !areEqual(g.times(rationals(x)), b) {
				t.Fatalf("Solve with %d rows returns the error %d", n, e)
			}
			for _, r := range rationals(x) {
				if !r.IsInt() {
					t.Errorf("the inverse has the number %v", r)
				}
			}
		}
	}
}

// P14.9: Vandermonde's determinants.
func TestVandermonde(t *testing.T) {
	for n := 1; n <= 12; n++ {
		at := func(i int) *big.Rat { return ratio(3*i-7, i%4+1) }
		want := number(1)
		g := filled(n, n, func(i, j int) *big.Rat {
			x := number(1)
			for range j {
				x = times(x, at(i))
			}
			return x
		})
		for i := range n {
			for j := range i {
				want = times(want, minus(at(i), at(j)))
			}
		}
		if det, e := matrix.Det(g.matrix()); e != api.OK || rational(det).Cmp(want) != 0 {
			t.Errorf("%d rows: Det = %v, %d, want %v", n, det, e, want)
		}
	}
}

// Rule R3: arguments stay, also when results are changed.
func TestArgumentsStay(t *testing.T) {
	source := rand.New(rand.NewSource(42))
	for range 100 {
		n := source.Intn(4) + 1
		g, b := randomGrid(source, n, n, moderate(source)), randomGrid(source, 1, n, moderate(source))[0]
		m, numbers := g.matrix(), fractions(b)
		x, _ := matrix.Solve(m, numbers)
		null, _ := matrix.Null(m)
		other, _ := matrix.Transpose(m)
		square, _ := matrix.Mul(m, m)
		_, _ = matrix.Det(m)
		_, _ = matrix.Rank(m)
		_, _ = matrix.Common(numbers, 7000)
		for _, list := range append(null, x, other.A, square.A) {
			for i := range list {
				list[i] = fraction(ratio(77, 5))
			}
		}
		if !areGridsEqual(gridOf(t, m), g) || !areEqual(rationals(numbers), b) {
			t.Fatalf("%v and %v became %v and %v", g, b, m, numbers)
		}
	}
}

// Rule R3.
func TestIntsStay(t *testing.T) {
	source := rand.New(rand.NewSource(43))
	for range 100 {
		n := source.Intn(5) + 1
		a, b := randomRows(source, n, 100), randomInts(source, n, 100)
		// room behind the rows, where nothing may be written
		room := make([][]int, n)
		for i, row := range a {
			room[i] = slices.Concat(row, slices.Repeat([]int{-5}, 2*n))
		}
		given := make([][]int, n)
		for i := range room {
			given[i] = room[i][:n]
		}
		behind := slices.Concat(b, slices.Repeat([]int{-5}, n))
		rests, _ := matrix.Modular(given, behind[:n], 101)
		for i := range rests {
			rests[i] = -9
		}
		x, _ := matrix.Lifted(append(given, []int{-5})[:n], behind[:n], 101)
		for i := range x {
			x[i] = frac.Frac{}
		}
		for i, row := range a {
			if !slices.Equal(room[i], slices.Concat(row, slices.Repeat([]int{-5}, 2*n))) {
				t.Fatalf("row %v became %v", row, room[i])
			}
		}
		if !slices.Equal(behind, slices.Concat(b, slices.Repeat([]int{-5}, n))) {
			t.Fatalf("%v became %v", b, behind)
		}
	}
}

// P14.2, P14.3 and P14.10: as many equations as there may be, with Cramer's rule.
func TestManyEquations(t *testing.T) {
	source := rand.New(rand.NewSource(44))
	const n = 128
	a, b := make([][]int, n), randomInts(source, n, 10)
	for i := range a {
		a[i] = randomInts(source, n, 4)
	}
	m := gridOfInts(a).matrix()
	x, e := matrix.Solve(m, intFractions(b))
	if e != api.OK || len(x) != n {
		t.Fatalf("Solve returns the error %d", e)
	}
	checkProduct(t, a, b, x)
	if y, e := matrix.Lifted(a, b, 2147483629); e != api.OK || !slices.EqualFunc(x, y, func(p, q frac.Frac) bool { return frac.Compare(p, q) == 0 }) {
		t.Errorf("Lifted returns something else, or the error %d", e)
	}
	det, e := matrix.Det(m)
	if e != api.OK || frac.Sign(det) == 0 {
		t.Errorf("Det returns the error %d", e)
	}
	for i, row := range a {
		row[77] = b[i]
	}
	other, e := matrix.Det(gridOfInts(a).matrix())
	if e != api.OK || rational(other).Cmp(times(rational(x[77]), rational(det))) != 0 {
		t.Errorf("Det returns the error %d, or does not fulfill Cramer's rule", e)
	}
}
