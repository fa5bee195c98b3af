package matrix_test

import (
	"math/big"
	"math/rand"
	"slices"
	"testing"

	"skymosaic/api"
	"skymosaic/frac"
	"skymosaic/matrix"
	"skymosaic/wide"
)

// checkCommon checks Common for limits around the size.
func checkCommon(t *testing.T, list ...*big.Rat) {
	t.Helper()
	s, want := size(list...)
	for _, most := range []int{0, 1, s - 1, s, s + 1, 6999, 7000} {
		if most < 0 || most > 7000 {
			continue
		}
		common, e := matrix.Common(fractions(list), most)
		if s > most && (e != api.ErrLimit || wide.Sign(common) != 0) || s <= most && (e != api.OK || bigOf(common).Cmp(want) != 0) {
			t.Fatalf("Common(%v, %d) = %v, %d, want %v for the size %d", list, most, common, e, want, s)
		}
	}
}

// sized is lists of numbers of that size, from 2 on.
func sized(s uint) [][]*big.Rat {
	low, high := power(s-1, 0), power(s, -1)
	half, _ := new(big.Int).SetString(power(s-1, 1).String(), 10)
	lists := [][]*big.Rat{
		{whole(low)}, {whole(high)}, {new(big.Rat).Neg(whole(low))}, {new(big.Rat).Neg(whole(high))},
		{new(big.Rat).SetFrac(big.NewInt(1), low)}, {new(big.Rat).SetFrac(big.NewInt(-1), high)},
		{number(0), number(1), new(big.Rat).SetFrac(new(big.Int).Sub(high, big.NewInt(1)), high), number(-1)},
		{new(big.Rat).SetFrac(half, new(big.Int).Sub(half, big.NewInt(1)))},
	}
	if s >= 4 {
		// a number that is multiplied, and denominators whose common multiple has the size
		lists = append(lists, []*big.Rat{whole(power(s-1, -1)), ratio(1, 2), ratio(-1, 2)}, []*big.Rat{ratio(-1, 3), whole(power(s-2, 0))},
			[]*big.Rat{ratio(1, 3), new(big.Rat).SetFrac(big.NewInt(1), power(s-2, 0))}, []*big.Rat{new(big.Rat).SetFrac(big.NewInt(1), power(s-2, 0)), ratio(-2, 3), number(0)})
	}
	return lists
}

// P14.11.
func TestCommon(t *testing.T) {
	checkCommon(t)
	checkCommon(t, number(0))
	checkCommon(t, number(1), number(0))
	checkCommon(t, ratio(1, 2), ratio(1, 3), ratio(1, 4), ratio(-5, 6))
	checkCommon(t, ratio(1, 6), ratio(1, 10), ratio(1, 15))
	for _, s := range []uint{2, 3, 4, 5, 31, 32, 33, 61, 62, 63, 64, 65, 123, 124, 125, 126, 1000, 6998, 6999, 7000, 7001, 7002} {
		for i, list := range sized(s) {
			if got, _ := size(list...); got != int(s) {
				t.Fatalf("list %d does not have the size %d, but %d", i, s, got)
			}
			checkCommon(t, list...)
			slices.Reverse(list)
			checkCommon(t, list...)
		}
	}
	source := rand.New(rand.NewSource(10))
	for range 2000 {
		checkCommon(t, randomGrid(source, 1, source.Intn(12)+1, randomKind(source))[0]...)
	}
}

// P14.11: the errors, in order.
func TestErrorsOfCommon(t *testing.T) {
	large := []frac.Frac{fraction(whole(power(9000, 0)))}
	for _, most := range []int{-1 << 63, -7000, -1, 7001, 7002, 16384, 1<<63 - 1} {
		for _, list := range [][]frac.Frac{nil, {fraction(ratio(1, 2))}, large} {
			if common, e := matrix.Common(list, most); e != api.ErrArg || wide.Sign(common) != 0 {
				t.Errorf("Common(%v, %d) = %v, %d, want ErrArg", list, most, common, e)
			}
		}
	}
	if common, e := matrix.Common(nil, 0); e != api.ErrLimit || wide.Sign(common) != 0 {
		t.Errorf("Common of no fractions with at most 0 = %v, %d, want ErrLimit", common, e)
	}
	if common, e := matrix.Common(nil, 1); e != api.OK || common.String() != "1" {
		t.Errorf("Common of no fractions with at most 1 = %v, %d, want 1", common, e)
	}
}

// P14.11: numbers beyond the range of package wide.
func TestCommonOfGreatNumbers(t *testing.T) {
	below := func(b *big.Int) *big.Rat { return new(big.Rat).SetFrac(big.NewInt(1), b) }
	for i, list := range [][]*big.Rat{
		{whole(power(16384, -1))},
		{new(big.Rat).Neg(whole(power(16384, -1)))},
		{below(power(16384, -1))},
		{below(power(16384, -1)), below(power(16383, -1))},
		{below(power(16383, 0)), ratio(1, 3), ratio(1, 5)},
		{below(power(8192, 1)), below(power(8192, -1)), ratio(1, 2)},
		{below(power(5000, 1)), whole(power(16000, 0))},
		{whole(power(16383, 0)), ratio(1, 2)},
		{whole(power(16383, 0)), ratio(1, 3)},
		{whole(power(6999, 0)), ratio(1, 2)},
		{below(power(6999, 0)), ratio(1, 3)},
		{below(power(6998, 0)), ratio(1, 3), number(2)},
	} {
		if common, e := matrix.Common(fractions(list), 7000); e != api.ErrLimit || wide.Sign(common) != 0 {
			t.Errorf("%d: Common returns %v and the error %d, want ErrLimit", i, common, e)
		}
		m := grid{list}.matrix()
		checkErrors(t, "a row of great numbers", m, api.ErrLimit)
		if x, e := matrix.Solve(m, make([]frac.Frac, 1)); e != api.ErrLimit || len(x) > 0 {
			t.Errorf("%d: Solve returns the error %d, want ErrLimit", i, e)
		}
		if product, e := matrix.Mul(m, grid{list}.transposed().matrix()); e != api.ErrLimit || !isEmpty(product) {
			t.Errorf("%d: Mul returns the error %d, want ErrLimit", i, e)
		}
	}
}

// P14.11: primes as denominators, one after the other.
func TestCommonOfPrimes(t *testing.T) {
	list := []*big.Rat{}
	for n := 2; n < 6000; n++ {
		if !big.NewInt(int64(n)).ProbablyPrime(20) {
			continue
		}
		list = append(list, ratio(1, n))
		if len(list) == 300 || 4940 < n && n < 4955 {
			checkCommon(t, list...)
		}
	}
	if s, _ := size(list...); s < 7500 {
		t.Errorf("the size is only %d", s)
	}
}

// diagonal is a grid with a number at its diagonal and 0 elsewhere.
func diagonal(rows, columns int, x *big.Rat) grid {
	return filled(rows, columns, func(i, j int) *big.Rat {
		if i == j {
			return x
		}
		return new(big.Rat)
	})
}

// limits are the greatest sizes of systems that are not too large.
func limits() []struct{ rows, columns, most int } {
	return []struct{ rows, columns, most int }{
		{1, 1, 6996}, {1, 2, 6996}, {1, 128, 6996}, {2, 1, 3496}, {3, 1, 3496}, {128, 1, 3496}, {2, 2, 3496}, {3, 2, 2329}, {4, 2, 2329}, {3, 3, 2329}, {3, 128, 2329},
		{4, 3, 1746}, {5, 3, 1746}, {7, 7, 996}, {7, 6, 996}, {8, 6, 996}, {128, 127, 50}, {128, 128, 50}, {128, 126, 51}, {125, 125, 52}, {126, 124, 52},
	}
}

// P14.2 and P14.3: the limit, by a number of the matrix.
func TestLimitsOfMatrices(t *testing.T) {
	for _, c := range limits() {
		for _, s := range []int{c.most, c.most + 1} {
			want := api.OK
			if s > c.most {
				want = api.ErrLimit
			}
			low, high := power(uint(s)-1, 0), power(uint(s), -1)
			list := []*big.Rat{whole(high), new(big.Rat).SetFrac(big.NewInt(-2), high), new(big.Rat).SetFrac(big.NewInt(1), low), new(big.Rat).Neg(whole(low))}
			if c.rows*c.columns > 1000 {
				list = list[s%2*2:][:2]
			}
			for _, x := range list {
				g := diagonal(c.rows, c.columns, number(1))
				g[c.rows-1][c.columns-1] = x
				if g.isTooLarge() != (want != api.OK) {
					t.Fatalf("%v is not a limit", c)
				}
				checkErrors(t, "a limit", g.matrix(), want)
				zeros := make([]frac.Frac, c.rows)
				_, e := matrix.Solve(g.matrix(), zeros)
				if (e == api.ErrLimit) != (want == api.ErrLimit) || (e == api.ErrRank) != (want == api.OK && c.rows < c.columns) {
					t.Errorf("%d rows, %d columns, size %d: Solve returns the error %d", c.rows, c.columns, s, e)
				}
			}
		}
	}
}

// P14.2: the limit, by a number of b, and by both together.
func TestLimitsOfSystems(t *testing.T) {
	for _, c := range limits() {
		for _, s := range []int{c.most, c.most + 1} {
			for _, x := range []*big.Rat{whole(power(uint(s), -1)), new(big.Rat).Neg(whole(power(uint(s)-1, 0))), new(big.Rat).SetFrac(big.NewInt(1), power(uint(s)-1, 0))} {
				g, b := diagonal(c.rows, c.columns, number(1)), make([]frac.Frac, c.rows)
				b[min(c.rows, c.columns)-1] = fraction(x)
				_, e := matrix.Solve(g.matrix(), b)
				if (e == api.ErrLimit) != (s > c.most) {
					t.Errorf("%d rows, %d columns, size %d in b: Solve returns the error %d", c.rows, c.columns, s, e)
				}
				g[0][0] = ratio(1, 3)
				b = make([]frac.Frac, c.rows)
				b[c.rows-1] = fraction(new(big.Rat).SetFrac(big.NewInt(2), power(uint(s)-1, 0)))
				_, e = matrix.Solve(g.matrix(), b)
				if (e == api.ErrLimit) != (s > c.most) {
					t.Errorf("%d rows, %d columns, size %d in both: Solve returns the error %d", c.rows, c.columns, s, e)
				}
			}
		}
	}
}

// P14.4: the limit of products, by the size of both matrices together.
func TestLimitsOfMul(t *testing.T) {
	for _, s := range []uint{2998, 2999, 3000, 3001, 3002} {
		for i, list := range sized(s) {
			for cut := range len(list) + 1 {
				a := grid{append([]*big.Rat{number(1)}, list[:cut]...)}
				b := grid{append([]*big.Rat{number(1)}, list[cut:]...)}
				m, e := matrix.Mul(a.transposed().matrix(), b.matrix())
				if s > 3000 {
					if e != api.ErrLimit || !isEmpty(m) {
						t.Errorf("list %d of the size %d: Mul returns the error %d, want ErrLimit", i, s, e)
					}
				} else if e != api.OK || !areGridsEqual(gridOf(t, m), product(a.transposed(), b)) {
					t.Errorf("list %d of the size %d: Mul returns the error %d", i, s, e)
				}
			}
		}
	}
	// the greatest numbers, whose products are added up
	x := whole(power(3000, -1))
	row := filled(1, 128, func(int, int) *big.Rat { return x })
	if m, e := matrix.Mul(row.matrix(), row.transposed().matrix()); e != api.OK || rational(m.A[0]).Cmp(times(number(128), times(x, x))) != 0 {
		t.Errorf("Mul of the greatest numbers returns the error %d", e)
	}
	large := whole(power(3000, 0))
	if m, e := matrix.Mul(grid{{large, large}}.matrix(), grid{{large, large}}.matrix()); e != api.ErrArg || !isEmpty(m) {
		t.Errorf("Mul with 2 columns, 1 row and large numbers returns the error %d, want ErrArg", e)
	}
}
