package matrix_test

import (
	"math/big"
	"math/rand"
	"slices"
	"testing"

	"skymosaic/api"
	"skymosaic/frac"
	"skymosaic/matrix"
)

// checkZero checks that there are no results beside an error.
func checkZero(t *testing.T, name string, isZero bool) {
	t.Helper()
	if !isZero {
		t.Errorf("%s: there is a result with an error", name)
	}
}

func isEmpty(m matrix.Matrix) bool {
	return m.Rows == 0 && m.Cols == 0 && len(m.A) == 0
}

// checkErrors checks that Rank, Null and Det (for as many rows as columns) return an error.
func checkErrors(t *testing.T, name string, m matrix.Matrix, want api.Errno) {
	t.Helper()
	rank, e1 := matrix.Rank(m)
	null, e2 := matrix.Null(m)
	if e1 != want || e2 != want {
		t.Errorf("%s: Rank and Null return the errors %d and %d, want %d", name, e1, e2, want)
	}
	if want != api.OK {
		checkZero(t, name, rank == 0 && len(null) == 0)
	}
	if m.Rows != m.Cols {
		return
	}
	det, e := matrix.Det(m)
	if e != want {
		t.Errorf("%s: Det returns the error %d, want %d", name, e, want)
	}
	if want != api.OK {
		checkZero(t, name, frac.Sign(det) == 0)
	}
}

func TestExamplesOfTheChapter(t *testing.T) {
	m := gridOfInts([][]int{{1, 2}, {3, -1}}).matrix()
	x, e := matrix.Solve(m, fractions([]*big.Rat{number(5), number(1)}))
	if e != api.OK || !areEqual(rationals(x), []*big.Rat{number(1), number(2)}) {
		t.Errorf("Solve = %v, %d, want 1, 2", x, e)
	}
	if det, e := matrix.Det(m); e != api.OK || det.String() != "-7" {
		t.Errorf("Det = %v, %d, want -7", det, e)
	}
	a, b := [][]int{{1, 2}, {3, -1}}, []int{5, 1}
	if rests, e := matrix.Modular(a, b, 5); e != api.OK || !slices.Equal(rests, []int{1, 2}) {
		t.Errorf("Modular = %v, %d, want 1, 2", rests, e)
	}
	if rests, e := matrix.Modular(a, b, 7); e != api.ErrRank || len(rests) > 0 {
		t.Errorf("Modular = %v, %d, want ErrRank", rests, e)
	}
	if third, e := matrix.Rebuild(integer(big.NewInt(34)), integer(big.NewInt(101))); e != api.OK || third.String() != "1/3" {
		t.Errorf("Rebuild(34, 101) = %v, %d, want 1/3", third, e)
	}
}

// ones is a matrix, valid or not, with that many elements.
func ones(rows, columns, elements int) matrix.Matrix {
	m := matrix.Matrix{Rows: rows, Cols: columns}
	for range elements {
		m.A = append(m.A, fraction(number(1)))
	}
	return m
}

// invalid is matrices that are not valid, each with another fault.
func invalid() []matrix.Matrix {
	return []matrix.Matrix{
		{}, ones(0, 1, 0), ones(1, 0, 0), ones(0, 0, 1), ones(1, 1, 0), ones(1, 1, 2), ones(2, 3, 5), ones(2, 3, 7), ones(2, 2, 3), ones(2, 2, 5),
		ones(129, 1, 129), ones(1, 129, 129), ones(129, 129, 129*129), ones(-1, 1, 0), ones(1, -1, 0), ones(-1, -1, 1), ones(-2, -3, 6),
		ones(1<<32, 1<<32, 0), ones(1<<62, 4, 0), ones(4, 1<<62, 0), ones(2, 0, 0), ones(2, 0, 2), ones(0, 2, 2), ones(-1<<63, -1, 0), ones(-1<<63, 2, 0),
		ones(128, 128, 128*128-1), ones(128, 128, 128*128+1), ones(3, 3, 8), ones(3, 3, 3),
	}
}

// P14.1.
func TestValid(t *testing.T) {
	for _, m := range []matrix.Matrix{ones(1, 1, 1), ones(1, 128, 128), ones(128, 1, 128), ones(128, 128, 128*128), ones(2, 3, 6), ones(3, 2, 6)} {
		if e := matrix.Valid(m); e != api.OK {
			t.Errorf("Valid with %d rows, %d columns and %d elements = %d, want OK", m.Rows, m.Cols, len(m.A), e)
		}
	}
	for _, m := range invalid() {
		if e := matrix.Valid(m); e != api.ErrArg {
			t.Errorf("Valid with %d rows, %d columns and %d elements = %d, want ErrArg", m.Rows, m.Cols, len(m.A), e)
		}
	}
}

// P14.1: ahead of all other errors.
func TestInvalidMatrices(t *testing.T) {
	large := fraction(whole(power(8000, 1)))
	for i, m := range invalid() {
		for j := range m.A {
			m.A[j] = large
		}
		checkErrors(t, "an invalid matrix", m, api.ErrArg)
		if x, e := matrix.Solve(m, make([]frac.Frac, max(0, min(m.Rows, 200)))); e != api.ErrArg || len(x) > 0 {
			t.Errorf("Solve with the invalid matrix %d returns the error %d", i, e)
		}
		if det, e := matrix.Det(m); e != api.ErrArg || frac.Sign(det) != 0 {
			t.Errorf("Det of the invalid matrix %d returns the error %d", i, e)
		}
		if other, e := matrix.Transpose(m); e != api.ErrArg || !isEmpty(other) {
			t.Errorf("Transpose of the invalid matrix %d returns the error %d", i, e)
		}
		good := matrix.Matrix{Rows: 1, Cols: 1, A: make([]frac.Frac, 1)}
		if 1 <= m.Rows && m.Rows <= 128 && 1 <= m.Cols && m.Cols <= 128 {
			good = matrix.Matrix{Rows: m.Cols, Cols: m.Rows, A: make([]frac.Frac, m.Rows*m.Cols)}
		}
		for _, pair := range [][2]matrix.Matrix{{m, good}, {good, m}, {m, m}} {
			if other, e := matrix.Mul(pair[0], pair[1]); e != api.ErrArg || !isEmpty(other) {
				t.Errorf("Mul with the invalid matrix %d returns the error %d", i, e)
			}
		}
	}
}

// checkSolve checks what Solve returns and returns its error.
func checkSolve(t *testing.T, g grid, b []*big.Rat) api.Errno {
	t.Helper()
	want, wantError := []*big.Rat(nil), api.ErrLimit
	if !g.isTooLarge(b...) {
		want, wantError = g.solve(b)
	}
	x, e := matrix.Solve(g.matrix(), fractions(b))
	if e != wantError || !areEqual(rationals(x), want) {
		t.Fatalf("Solve(%v, %v) = %v, %d, want %v, %d", g, b, x, e, want, wantError)
	}
	if e == api.OK && !areEqual(g.times(rationals(x)), b) {
		t.Fatalf("the product of %v and %v is not %v", g, x, b)
	}
	return e
}

// P14.2 and P14.8.
func TestSolve(t *testing.T) {
	source := rand.New(rand.NewSource(1))
	counts := map[api.Errno]int{}
	for range 4000 {
		rows, columns, k := source.Intn(7)+1, source.Intn(7)+1, randomKind(source)
		g := randomOfRank(source, rows, columns, source.Intn(7), k)
		b := make([]*big.Rat, rows)
		for i := range b {
			b[i] = k(source)
		}
		if source.Intn(3) > 0 {
			b = g.times(randomGrid(source, 1, columns, k)[0])
		}
		counts[checkSolve(t, g, b)]++
	}
	for _, e := range []api.Errno{api.OK, api.ErrNone, api.ErrRank} {
		if counts[e] < 200 {
			t.Errorf("only %d systems have the error %d", counts[e], e)
		}
	}
}

// P14.2: all systems of two equations with few numbers, and of one with one or two unknowns.
func TestSmallSystems(t *testing.T) {
	const values = 4
	for code := range values * values * values * values * values * values {
		digit := func() *big.Rat {
			n := code%values - 1
			code /= values
			return number(n)
		}
		g := filled(2, 2, func(int, int) *big.Rat { return digit() })
		b := []*big.Rat{digit(), digit()}
		checkSolve(t, g, b)
		checkSolve(t, g[:1], b[:1])
		checkSolve(t, grid{g[0][:1], g[1][:1]}, b)
	}
}

// P14.2: the order of errors.
func TestErrorsOfSolve(t *testing.T) {
	large := whole(power(3496, 0))
	for _, c := range []struct {
		name string
		g    grid
		b    []*big.Rat
		want api.Errno
	}{
		{"too few numbers", grid{{number(1)}, {number(1)}}, []*big.Rat{number(1)}, api.ErrArg},
		{"too many numbers", grid{{number(1)}}, []*big.Rat{number(1), number(1)}, api.ErrArg},
		{"no numbers", grid{{number(1)}}, nil, api.ErrArg},
		{"as many numbers as columns", grid{{number(1), number(2)}}, []*big.Rat{number(1), number(1)}, api.ErrArg},
		{"too few numbers and too large", grid{{large}, {large}}, []*big.Rat{number(1)}, api.ErrArg},
		{"too large without solution", grid{{number(0)}, {number(0)}}, []*big.Rat{large, number(0)}, api.ErrLimit},
		{"too large with several solutions", grid{{large, large}, {large, large}}, []*big.Rat{large, large}, api.ErrLimit},
		{"no solution, not enough pivots", grid{{number(1), number(1)}, {number(2), number(2)}}, []*big.Rat{number(1), number(1)}, api.ErrNone},
		{"no solution, more rows", grid{{number(1)}, {number(2)}}, []*big.Rat{number(1), number(1)}, api.ErrNone},
		{"no solution in the last row", grid{{number(1)}, {number(2)}, {number(0)}}, []*big.Rat{number(1), number(2), number(1)}, api.ErrNone},
		{"only zeros", grid{{number(0), number(0)}}, []*big.Rat{number(0)}, api.ErrRank},
		{"zeros without solution", grid{{number(0), number(0)}}, []*big.Rat{number(3)}, api.ErrNone},
		{"several solutions", grid{{number(1), number(1)}}, []*big.Rat{number(3)}, api.ErrRank},
		{"several solutions, more rows", grid{{number(1), number(1)}, {number(2), number(2)}, {number(0), number(0)}}, []*big.Rat{number(3), number(6), number(0)}, api.ErrRank},
	} {
		if x, e := matrix.Solve(c.g.matrix(), fractions(c.b)); e != c.want || len(x) > 0 {
			t.Errorf("%s: Solve = %v, %d, want the error %d", c.name, x, e, c.want)
		}
	}
}

// checkForm checks what Rank, Null and Det return.
func checkForm(t *testing.T, g grid) {
	t.Helper()
	m := g.matrix()
	if g.isTooLarge() {
		checkErrors(t, "a large matrix", m, api.ErrLimit)
		return
	}
	_, pivots := g.reduced()
	if rank, e := matrix.Rank(m); e != api.OK || rank != len(pivots) {
		t.Fatalf("Rank(%v) = %d, %d, want %d", g, rank, e, len(pivots))
	}
	null, e := matrix.Null(m)
	want := g.null()
	if e != api.OK || len(null) != len(want) {
		t.Fatalf("Null(%v) = %v, %d, want %v", g, null, e, want)
	}
	for i, solution := range null {
		if !areEqual(rationals(solution), want[i]) {
			t.Fatalf("Null(%v) = %v, want %v", g, null, want)
		}
	}
	if len(g) == len(g[0]) {
		want := g.det()
		if det, e := matrix.Det(m); e != api.OK || rational(det).Cmp(want) != 0 {
			t.Fatalf("Det(%v) = %v, %d, want %v", g, det, e, want)
		}
	}
}

// P14.3 and P14.8.
func TestForms(t *testing.T) {
	source := rand.New(rand.NewSource(2))
	for range 4000 {
		rows, columns := source.Intn(6)+1, source.Intn(6)+1
		if source.Intn(2) == 0 {
			columns = rows
		}
		checkForm(t, randomOfRank(source, rows, columns, source.Intn(7), randomKind(source)))
	}
}

// P14.3: all matrices with two rows and up to three columns of few numbers, and the transposed ones.
func TestSmallForms(t *testing.T) {
	for code := range 3 * 3 * 3 * 3 * 3 * 3 {
		g := filled(2, 3, func(int, int) *big.Rat {
			n := code%3 - 1
			code /= 3
			return number(n)
		})
		for columns := 1; columns <= 3; columns++ {
			part := grid{g[0][:columns], g[1][:columns]}
			checkForm(t, part)
			checkForm(t, part.transposed())
			checkForm(t, part[:1])
		}
	}
}

// P14.3: rows in all orders, so that they are exchanged.
func TestPermutations(t *testing.T) {
	order := []int{0, 1, 2, 3, 4}
	var visit func(n int)
	visit = func(n int) {
		if n == len(order) {
			checkForm(t, filled(5, 5, func(i, j int) *big.Rat {
				if order[i] == j {
					return number(j + 2)
				}
				return new(big.Rat)
			}))
			checkForm(t, filled(5, 5, func(i, j int) *big.Rat { return ratio(max(0, order[i]-j)*(j+1), order[i]+2) }))
			return
		}
		for i := n; i < len(order); i++ {
			order[n], order[i] = order[i], order[n]
			visit(n + 1)
			order[n], order[i] = order[i], order[n]
		}
	}
	visit(0)
}

// P14.3: columns without pivots between those with one, and zeros.
func TestSparseForms(t *testing.T) {
	source := rand.New(rand.NewSource(3))
	for range 500 {
		rows, columns := source.Intn(12)+1, source.Intn(12)+1
		isEmpty := make([]bool, columns)
		for j := range isEmpty {
			isEmpty[j] = source.Intn(3) == 0
		}
		g := filled(rows, columns, func(i, j int) *big.Rat {
			if isEmpty[j] || source.Intn(3) > 0 {
				return new(big.Rat)
			}
			return ratio(source.Intn(19)-9, source.Intn(3)+1)
		})
		if rows == columns && rows > 7 {
			g = g[1:]
		}
		checkForm(t, g)
	}
}

// P14.3: Det asks for as many rows as columns first.
func TestDetOfOtherMatrices(t *testing.T) {
	large := whole(power(8000, 0))
	for _, g := range []grid{{{number(1), number(2)}}, {{number(1)}, {number(2)}}, {{large, large}}, {{large}, {large}}} {
		if det, e := matrix.Det(g.matrix()); e != api.ErrArg || frac.Sign(det) != 0 {
			t.Errorf("Det with %d rows and %d columns = %v, %d, want ErrArg", len(g), len(g[0]), det, e)
		}
	}
}

// P14.3: the zero matrices of all sizes.
func TestZeros(t *testing.T) {
	for _, sides := range [][2]int{{1, 1}, {3, 3}, {1, 128}, {128, 1}, {128, 128}} {
		m := matrix.Matrix{Rows: sides[0], Cols: sides[1], A: make([]frac.Frac, sides[0]*sides[1])}
		null, e := matrix.Null(m)
		if e != api.OK || len(null) != m.Cols {
			t.Fatalf("Null of zeros in %d columns has %d solutions, error %d", m.Cols, len(null), e)
		}
		for i, solution := range null {
			for j, x := range solution {
				if len(solution) != m.Cols || (x.String() == "1") != (i == j) || i != j && frac.Sign(x) != 0 {
					t.Fatalf("solution %d of zeros has %v at %d", i, x, j)
				}
			}
		}
		if rank, e := matrix.Rank(m); e != api.OK || rank != 0 {
			t.Errorf("Rank of zeros = %d, %d", rank, e)
		}
	}
	if det, e := matrix.Det(matrix.Matrix{Rows: 128, Cols: 128, A: make([]frac.Frac, 128*128)}); e != api.OK || frac.Sign(det) != 0 {
		t.Errorf("Det of zeros = %v, %d", det, e)
	}
}

// P14.4.
func TestTranspose(t *testing.T) {
	source := rand.New(rand.NewSource(4))
	for range 300 {
		g := randomGrid(source, source.Intn(9)+1, source.Intn(9)+1, randomKind(source))
		m, e := matrix.Transpose(g.matrix())
		if e != api.OK || m.Rows != len(g[0]) || m.Cols != len(g) || !areGridsEqual(gridOf(t, m), g.transposed()) {
			t.Fatalf("Transpose(%v) = %v, %d", g, m, e)
		}
	}
	// without a limit
	g := grid{{whole(power(16384, -1)), new(big.Rat).SetFrac(power(16383, 1), power(16384, -1))}, {new(big.Rat).SetFrac(big.NewInt(-1), power(16384, -3)), number(0)}, {number(1), number(2)}}
	if m, e := matrix.Transpose(g.matrix()); e != api.OK || !areGridsEqual(gridOf(t, m), g.transposed()) {
		t.Errorf("Transpose of great numbers returns the error %d", e)
	}
	for _, sides := range [][2]int{{128, 128}, {1, 128}, {128, 1}} {
		g := filled(sides[0], sides[1], func(i, j int) *big.Rat { return ratio(i-j, i+1) })
		if m, e := matrix.Transpose(g.matrix()); e != api.OK || !areGridsEqual(gridOf(t, m), g.transposed()) {
			t.Errorf("Transpose with %v returns the error %d", sides, e)
		}
	}
}

// P14.4.
func TestMul(t *testing.T) {
	source := rand.New(rand.NewSource(5))
	for range 1500 {
		rows, middle, columns := source.Intn(6)+1, source.Intn(6)+1, source.Intn(6)+1
		a, b := randomGrid(source, rows, middle, randomKind(source)), randomGrid(source, middle, columns, randomKind(source))
		m, e := matrix.Mul(a.matrix(), b.matrix())
		if e != api.OK && e != api.ErrLimit || e == api.OK && !areGridsEqual(gridOf(t, m), product(a, b)) {
			t.Fatalf("Mul(%v, %v) = %v, %d", a, b, m, e)
		}
		if s, _ := size(slices.Concat(slices.Concat(a...), slices.Concat(b...))...); (e == api.ErrLimit) != (s > 3000) || e != api.OK && !isEmpty(m) {
			t.Fatalf("Mul(%v, %v) returns the error %d for the size %d", a, b, e, s)
		}
		if middle == columns {
			continue
		}
		if m, e := matrix.Mul(b.matrix(), b.matrix()); e != api.ErrArg || !isEmpty(m) {
			t.Fatalf("Mul with %d columns and %d rows = %v, %d, want ErrArg", columns, middle, m, e)
		}
	}
}

// P14.4: matrices of the greatest numbers of rows and columns.
func TestMulOfManyNumbers(t *testing.T) {
	source := rand.New(rand.NewSource(6))
	small := func(source *rand.Rand) *big.Rat { return ratio(source.Intn(200)-100, source.Intn(3)+1) }
	for _, sides := range [][3]int{{128, 3, 128}, {3, 128, 2}, {1, 128, 1}, {128, 1, 128}, {40, 50, 60}} {
		a, b := randomGrid(source, sides[0], sides[1], small), randomGrid(source, sides[1], sides[2], small)
		m, e := matrix.Mul(a.matrix(), b.matrix())
		if e != api.OK || !areGridsEqual(gridOf(t, m), product(a, b)) {
			t.Errorf("Mul with the sides %v returns the error %d", sides, e)
		}
	}
}
