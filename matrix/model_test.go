package matrix_test

import (
	"math/big"
	"math/rand"
	"slices"
	"testing"

	"skymosaic/api"
	"skymosaic/frac"
	"skymosaic/matrix"
	"skymosaic/wide"
)

// grid is the rows of a matrix.
type grid [][]*big.Rat

func number(n int) *big.Rat {
	return new(big.Rat).SetInt64(int64(n))
}

func ratio(p, q int) *big.Rat {
	return big.NewRat(int64(p), int64(q))
}

// power is 2^n + more.
func power(n uint, more int64) *big.Int {
	b := new(big.Int).Lsh(big.NewInt(1), n)
	return b.Add(b, big.NewInt(more))
}

func whole(b *big.Int) *big.Rat {
	return new(big.Rat).SetInt(b)
}

func minus(a, b *big.Rat) *big.Rat {
	return new(big.Rat).Sub(a, b)
}

func plus(a, b *big.Rat) *big.Rat {
	return new(big.Rat).Add(a, b)
}

func times(a, b *big.Rat) *big.Rat {
	return new(big.Rat).Mul(a, b)
}

// fraction is the fraction with the value r, which has to be one.
func fraction(r *big.Rat) frac.Frac {
	x, e := frac.Parse(r.RatString())
	if e != api.OK {
		panic(r.RatString())
	}
	return x
}

func fractions(list []*big.Rat) []frac.Frac {
	result := make([]frac.Frac, len(list))
	for i, r := range list {
		result[i] = fraction(r)
	}
	return result
}

func rational(x frac.Frac) *big.Rat {
	r, ok := new(big.Rat).SetString(x.String())
	if !ok {
		panic(x.String())
	}
	return r
}

func rationals(list []frac.Frac) []*big.Rat {
	result := make([]*big.Rat, len(list))
	for i, x := range list {
		result[i] = rational(x)
	}
	return result
}

// integer is the integer b, which has to be in range.
func integer(b *big.Int) wide.Int {
	x, e := wide.Parse(b.String())
	if e != api.OK {
		panic(b)
	}
	return x
}

func bigOf(x wide.Int) *big.Int {
	b, ok := new(big.Int).SetString(x.String(), 10)
	if !ok {
		panic(x.String())
	}
	return b
}

func (g grid) matrix() matrix.Matrix {
	return matrix.Matrix{Rows: len(g), Cols: len(g[0]), A: fractions(slices.Concat(g...))}
}

// gridOf is the grid of a matrix, which has to be valid.
func gridOf(t *testing.T, m matrix.Matrix) grid {
	t.Helper()
	if m.Rows < 1 || m.Cols < 1 || len(m.A) != m.Rows*m.Cols {
		t.Fatalf("a matrix has %d rows, %d columns and %d elements", m.Rows, m.Cols, len(m.A))
	}
	g := grid{}
	for row := range slices.Chunk(rationals(m.A), m.Cols) {
		g = append(g, row)
	}
	return g
}

// filled is the grid with the numbers of cell.
func filled(rows, columns int, cell func(i, j int) *big.Rat) grid {
	g := make(grid, rows)
	for i := range g {
		for j := range columns {
			g[i] = append(g[i], cell(i, j))
		}
	}
	return g
}

func gridOfInts(a [][]int) grid {
	return filled(len(a), len(a[0]), func(i, j int) *big.Rat { return number(a[i][j]) })
}

func (g grid) transposed() grid {
	return filled(len(g[0]), len(g), func(i, j int) *big.Rat { return g[j][i] })
}

// times is the product with a vector.
func (g grid) times(x []*big.Rat) []*big.Rat {
	result := make([]*big.Rat, len(g))
	for i, row := range g {
		result[i] = new(big.Rat)
		for j, a := range row {
			result[i].Add(result[i], times(a, x[j]))
		}
	}
	return result
}

// product is the product of two grids.
func product(a, b grid) grid {
	columns := b.transposed()
	result := make(grid, len(columns))
	for j, column := range columns {
		result[j] = a.times(column)
	}
	return result.transposed()
}

// with is the grid with one more column.
func (g grid) with(column []*big.Rat) grid {
	return filled(len(g), len(g[0])+1, func(i, j int) *big.Rat {
		if j == len(g[0]) {
			return column[i]
		}
		return g[i][j]
	})
}

// reduced is the reduced form, with the columns of its pivots.
func (g grid) reduced() (form grid, pivots []int) {
	form = filled(len(g), len(g[0]), func(i, j int) *big.Rat { return new(big.Rat).Set(g[i][j]) })
	for column := range form[0] {
		top := len(pivots)
		i := slices.IndexFunc(form[top:], func(row []*big.Rat) bool { return row[column].Sign() != 0 })
		if i < 0 {
			continue
		}
		form[top], form[top+i] = form[top+i], form[top]
		pivot := new(big.Rat).Set(form[top][column])
		for _, x := range form[top] {
			x.Quo(x, pivot)
		}
		for i, row := range form {
			if factor := new(big.Rat).Set(row[column]); i != top {
				for j, x := range row {
					x.Sub(x, times(factor, form[top][j]))
				}
			}
		}
		pivots = append(pivots, column)
	}
	return form, pivots
}

// solve is what Solve returns for systems that are not too large.
func (g grid) solve(b []*big.Rat) ([]*big.Rat, api.Errno) {
	form, pivots := g.with(b).reduced()
	columns := len(g[0])
	if slices.Contains(pivots, columns) {
		return nil, api.ErrNone
	}
	if len(pivots) < columns {
		return nil, api.ErrRank
	}
	return form.transposed()[columns][:columns], api.OK
}

// null is what Null returns, word for word.
func (g grid) null() grid {
	form, pivots := g.reduced()
	basis := grid{}
	for column := range g[0] {
		if slices.Contains(pivots, column) {
			continue
		}
		solution := make([]*big.Rat, len(g[0]))
		for j := range solution {
			solution[j] = new(big.Rat)
		}
		solution[column] = number(1)
		for i, pivot := range pivots {
			solution[pivot] = new(big.Rat).Neg(form[i][column])
		}
		basis = append(basis, solution)
	}
	return basis
}

// det is the determinant, by the numbers of the first row and the determinants without it.
func (g grid) det() *big.Rat {
	if len(g) == 0 {
		return number(1)
	}
	total := new(big.Rat)
	for column, x := range g[0] {
		if x.Sign() == 0 {
			continue
		}
		less := grid{}
		for _, row := range g[1:] {
			less = append(less, slices.Concat(row[:column], row[column+1:]))
		}
		part := times(x, less.det())
		if column%2 == 1 {
			part.Neg(part)
		}
		total.Add(total, part)
	}
	return total
}

// size is the size of numbers, word for word, and the least common multiple of their denominators.
func size(list ...*big.Rat) (int, *big.Int) {
	common := big.NewInt(1)
	for _, x := range list {
		divisor := new(big.Int).GCD(nil, nil, common, x.Denom())
		common = new(big.Int).Mul(common, new(big.Int).Quo(x.Denom(), divisor))
	}
	greatest := common.BitLen()
	for _, x := range list {
		greatest = max(greatest, new(big.Int).Abs(times(x, whole(common)).Num()).BitLen())
	}
	return greatest, common
}

// isTooLarge is when the system of a grid and further numbers is too large, word for word.
func (g grid) isTooLarge(further ...*big.Rat) bool {
	s, _ := size(append(slices.Concat(g...), further...)...)
	k := len(g)
	if len(g[0])+1 < k {
		k = len(g[0]) + 1
	}
	return k*(s+4) > 7000
}

func areEqual(a, b []*big.Rat) bool {
	return slices.EqualFunc(a, b, func(x, y *big.Rat) bool { return x.Cmp(y) == 0 })
}

func areGridsEqual(a, b grid) bool {
	return slices.EqualFunc(a, b, func(x, y []*big.Rat) bool { return areEqual(x, y) })
}

// A kind makes random numbers.
type kind func(source *rand.Rand) *big.Rat

// kinds are numbers that are often 0 or equal, small fractions, greater ones, and integers and denominators of many words.
func kinds() []kind {
	long := func(source *rand.Rand, most uint) *big.Int {
		return new(big.Int).Rand(source, power(uint(source.Intn(int(most)))+1, 0))
	}
	return []kind{
		func(source *rand.Rand) *big.Rat { return number(source.Intn(3) - 1) },
		func(source *rand.Rand) *big.Rat { return number(max(source.Intn(9)-6, 0)) },
		func(source *rand.Rand) *big.Rat { return ratio(source.Intn(11)-5, source.Intn(4)+1) },
		func(source *rand.Rand) *big.Rat { return ratio(source.Intn(2000)-1000, source.Intn(100)+1) },
		func(source *rand.Rand) *big.Rat { return whole(new(big.Int).Sub(long(source, 200), long(source, 200))) },
		func(source *rand.Rand) *big.Rat {
			return new(big.Rat).SetFrac(new(big.Int).Sub(long(source, 70), long(source, 70)), new(big.Int).Add(long(source, 40), big.NewInt(1)))
		},
	}
}

func randomKind(source *rand.Rand) kind {
	list := kinds()
	return list[source.Intn(len(list))]
}

func randomGrid(source *rand.Rand, rows, columns int, k kind) grid {
	return filled(rows, columns, func(int, int) *big.Rat { return k(source) })
}

// randomOfRank is a grid of at most that rank, sometimes with zeros and equal rows.
func randomOfRank(source *rand.Rand, rows, columns, rank int, k kind) grid {
	if rank >= min(rows, columns) {
		return randomGrid(source, rows, columns, k)
	}
	if rank == 0 {
		return filled(rows, columns, func(int, int) *big.Rat { return new(big.Rat) })
	}
	g := product(randomGrid(source, rows, rank, k), randomGrid(source, rank, columns, k))
	if source.Intn(3) == 0 {
		g[source.Intn(rows)] = g[0]
	}
	return g
}
