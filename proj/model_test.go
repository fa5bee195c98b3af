package proj

import (
	"math/big"
	"math/rand"
	"testing"

	"skymosaic/api"
	"skymosaic/frac"
)

// rows is a matrix of any size, of fractions.
type rows [][]*big.Rat

func rowsOf(p api.Proj) rows {
	m := rows{}
	for i := range 3 {
		m = append(m, rationals(p.M[3*i], p.M[3*i+1], p.M[3*i+2]))
	}
	return m
}

func rationals(numbers ...int) (list []*big.Rat) {
	for _, n := range numbers {
		list = append(list, new(big.Rat).SetInt64(int64(n)))
	}
	return list
}

// determinantOf is the sum over the six orders of columns.
func determinantOf(p api.Proj) *big.Int {
	total := new(big.Int)
	for i, order := range [][3]int{{0, 1, 2}, {1, 2, 0}, {2, 0, 1}, {0, 2, 1}, {1, 0, 2}, {2, 1, 0}} {
		term := big.NewInt(1)
		for row, column := range order {
			term.Mul(term, big.NewInt(int64(p.M[3*row+column])))
		}
		if i > 2 {
			term.Neg(term)
		}
		total.Add(total, term)
	}
	return total
}

// validity is what P12.1 says.
func validity(p api.Proj) api.Errno {
	for _, n := range p.M {
		if n > 1<<30 || n < -1<<30 {
			return api.ErrArg
		}
	}
	if determinantOf(p).Sign() == 0 {
		return api.ErrFlat
	}
	return api.OK
}

// imageOf is where a projection takes a point, and false if it takes it nowhere.
func imageOf(p api.Proj, u, v *big.Rat) (x, y *big.Rat, ok bool) {
	to := []*big.Rat{}
	for _, row := range rowsOf(p) {
		total := new(big.Rat).Mul(row[0], u)
		total.Add(total, new(big.Rat).Mul(row[1], v))
		to = append(to, total.Add(total, row[2]))
	}
	if to[2].Sign() == 0 {
		return nil, nil, false
	}
	return new(big.Rat).Quo(to[0], to[2]), new(big.Rat).Quo(to[1], to[2]), true
}

// reduced brings a matrix to reduced echelon form, and returns the columns of its pivots.
func (m rows) reduced() (pivots []int) {
	for column := range m[0] {
		done := len(pivots)
		for i := done; i < len(m); i++ {
			if m[i][column].Sign() != 0 {
				m[done], m[i] = m[i], m[done]
				break
			}
		}
		if done == len(m) || m[done][column].Sign() == 0 {
			continue
		}
		pivots = append(pivots, column)
		m[done] = scaled(m[done], new(big.Rat).Inv(m[done][column]))
		for i := range m {
			if i == done {
				continue
			}
			for k, n := range scaled(m[done], m[i][column]) {
				m[i][k] = new(big.Rat).Sub(m[i][k], n)
			}
		}
	}
	return pivots
}

func scaled(row []*big.Rat, factor *big.Rat) (list []*big.Rat) {
	for _, n := range row {
		list = append(list, new(big.Rat).Mul(n, factor))
	}
	return list
}

// normalOf returns the normal projection of nine fractions, and ErrRange if it has a number that is out of range.
func normalOf(numbers []*big.Rat) (p api.Proj, e api.Errno) {
	common, divisor := big.NewInt(1), new(big.Int)
	for _, n := range numbers {
		common.Mul(common, n.Denom())
	}
	whole := scaled(numbers, new(big.Rat).SetInt(common))
	sign := 0
	for _, n := range whole {
		divisor.GCD(nil, nil, divisor, new(big.Int).Abs(n.Num()))
		if sign == 0 {
			sign = n.Sign()
		}
	}
	if sign < 0 {
		divisor.Neg(divisor)
	}
	for i, n := range whole {
		quotient := new(big.Int).Quo(n.Num(), divisor)
		if quotient.CmpAbs(big.NewInt(1<<30)) > 0 {
			return api.Proj{}, api.ErrRange
		}
		p.M[i] = int(quotient.Int64())
	}
	return p, api.OK
}

// inverseOf is the normal projection of the inverse matrix, which is found by elimination.
func inverseOf(p api.Proj) (api.Proj, api.Errno) {
	m := rowsOf(p)
	for i := range m {
		unit := rationals(0, 0, 0)
		unit[i] = big.NewRat(1, 1)
		m[i] = append(m[i], unit...)
	}
	m.reduced()
	numbers := []*big.Rat{}
	for _, row := range m {
		numbers = append(numbers, row[3:]...)
	}
	return normalOf(numbers)
}

// productOf is the normal projection of the product of two matrices.
func productOf(p, q api.Proj) (api.Proj, api.Errno) {
	numbers := []*big.Rat{}
	a, b := rowsOf(p), rowsOf(q)
	for i := range 3 {
		for j := range 3 {
			total := new(big.Rat)
			for k := range 3 {
				total.Add(total, new(big.Rat).Mul(a[i][k], b[k][j]))
			}
			numbers = append(numbers, total)
		}
	}
	return normalOf(numbers)
}

// flatPoints tells whether three points are on a line.
func flatPoints(points [4]api.Point) bool {
	for left := range points {
		three := []api.Point{}
		for i, p := range points {
			if i != left {
				three = append(three, p)
			}
		}
		a, b, c := three[0], three[1], three[2]
		if (b.X-a.X)*(c.Y-a.Y) == (c.X-a.X)*(b.Y-a.Y) {
			return true
		}
	}
	return false
}

// fourOf is what P12.6 says. The nine numbers are solved for in the eight equations of the coordinates.
func fourOf(from, to [4]api.Point) (api.Proj, api.Errno) {
	for _, p := range append(append([]api.Point{}, from[:]...), to[:]...) {
		if max(p.X, p.Y) > 1<<20 || min(p.X, p.Y) < -1<<20 {
			return api.Proj{}, api.ErrArg
		}
	}
	if flatPoints(from) || flatPoints(to) {
		return api.Proj{}, api.ErrFlat
	}
	m := rows{}
	for i, p := range from {
		x, y := to[i].X, to[i].Y
		m = append(m, rationals(p.X, p.Y, 1, 0, 0, 0, -x*p.X, -x*p.Y, -x))
		m = append(m, rationals(0, 0, 0, p.X, p.Y, 1, -y*p.X, -y*p.Y, -y))
	}
	pivots := m.reduced()
	free := 0
	for free < len(pivots) && pivots[free] == free {
		free++
	}
	numbers := rationals(0, 0, 0, 0, 0, 0, 0, 0, 0)
	numbers[free].SetInt64(1)
	for i, column := range pivots {
		numbers[column] = new(big.Rat).Neg(m[i][free])
	}
	return normalOf(numbers)
}

// power2 is 2^n + more.
func power2(n uint, more int64) *big.Int {
	b := new(big.Int).Lsh(big.NewInt(1), n)
	return b.Add(b, big.NewInt(more))
}

func integer(b *big.Int) *big.Rat {
	return new(big.Rat).SetInt(b)
}

func number(s string) frac.Frac {
	x, e := frac.Parse(s)
	if e != api.OK {
		panic(s)
	}
	return x
}

func fracOf(r *big.Rat) frac.Frac {
	return number(r.RatString())
}

func ratOf(x frac.Frac) *big.Rat {
	r, ok := new(big.Rat).SetString(x.String())
	if !ok {
		panic(x.String())
	}
	return r
}

// proj returns the projection with nine numbers.
func proj(numbers ...int) (p api.Proj) {
	if copy(p.M[:], numbers) != 9 {
		panic(len(numbers))
	}
	return p
}

// randomProj is valid; its numbers are of all sizes up to most, and some are 0 or most.
func randomProj(source *rand.Rand, most int) (p api.Proj) {
	for {
		for i := range p.M {
			p.M[i] = source.Intn(source.Intn(most)+1) * (source.Intn(3) - 1)
			if source.Intn(20) == 0 {
				p.M[i] = []int{-most, most}[source.Intn(2)]
			}
		}
		if determinantOf(p).Sign() != 0 {
			return p
		}
	}
}

// randomRat has a numerator and a denominator of at most most bits.
func randomRat(source *rand.Rand, most int) *big.Rat {
	above := new(big.Int).Rand(source, power2(uint(source.Intn(most)+1), 0))
	below := new(big.Int).Rand(source, power2(uint(source.Intn(most)+1), 0))
	if below.Sign() == 0 || source.Intn(4) == 0 {
		below.SetInt64(1)
	}
	if source.Intn(2) == 0 {
		above.Neg(above)
	}
	return new(big.Rat).SetFrac(above, below)
}

// turns are the projections that only permute coordinates and change a sign. They put each number of a matrix in each
// place, with each sign.
func turns() (list []api.Proj) {
	for _, order := range [][3]int{{0, 1, 2}, {1, 2, 0}, {2, 0, 1}, {0, 2, 1}, {1, 0, 2}, {2, 1, 0}} {
		for sign := range 4 {
			p := api.Proj{}
			for row, column := range order {
				p.M[3*row+column] = 1
				if row == sign {
					p.M[3*row+column] = -1
				}
			}
			list = append(list, p)
		}
	}
	return list
}

// turned is a product of small matrices.
func turned(t *testing.T, list ...api.Proj) api.Proj {
	t.Helper()
	total := proj(1, 0, 0, 0, 1, 0, 0, 0, 1)
	for _, p := range list {
		sums := api.Proj{}
		for i := range sums.M {
			for k := range 3 {
				sums.M[i] += total.M[i/3*3+k] * p.M[3*k+i%3]
			}
		}
		total = sums
	}
	return total
}

// checkProj compares a result with what is expected.
func checkProj(t *testing.T, what string, p api.Proj, e api.Errno, want api.Proj, wantE api.Errno) {
	t.Helper()
	if p != want || e != wantE {
		t.Fatalf("%s = %v, %d, want %v, %d", what, p.M, e, want.M, wantE)
	}
}
