package matrix_test

import (
	"math"
	"math/big"
	"math/rand"
	"slices"
	"testing"

	"skymosaic/api"
	"skymosaic/frac"
	"skymosaic/matrix"
	"skymosaic/wide"
)

// checkRebuilt checks that Rebuild returns p/q, or ErrNone if it is nil.
func checkRebuilt(t *testing.T, x, modulus *big.Int, want *big.Rat) {
	t.Helper()
	got, e := matrix.Rebuild(integer(x), integer(modulus))
	if want == nil {
		if e != api.ErrNone || frac.Sign(got) != 0 {
			t.Fatalf("Rebuild(%v, %v) = %v, %d, want ErrNone", x, modulus, got, e)
		}
		return
	}
	if e != api.OK || rational(got).Cmp(want) != 0 {
		t.Fatalf("Rebuild(%v, %v) = %v, %d, want %v", x, modulus, got, e, want)
	}
}

// P14.6: all fractions tried, for all small moduli.
func TestRebuildOfSmallNumbers(t *testing.T) {
	for m := 2; m < 260; m++ {
		most := 0
		for 2*(most+1)*(most+1) < m {
			most++
		}
		for x := range m {
			found := []*big.Rat{}
			for q := 1; q <= most; q++ {
				for p := -most; p <= most; p++ {
					if r := ratio(p, q); (p-x*q)%m == 0 && r.Denom().Int64() == int64(q) {
						found = append(found, r)
					}
				}
			}
			if len(found) > 1 {
				t.Fatalf("%v are all %d modulo %d", found, x, m)
			}
			checkRebuilt(t, big.NewInt(int64(x)), big.NewInt(int64(m)), append(found, nil)[0])
		}
	}
}

// P14.6: the order of errors.
func TestErrorsOfRebuild(t *testing.T) {
	minus := func(b *big.Int) *big.Int { return new(big.Int).Neg(b) }
	for _, c := range []struct{ x, modulus *big.Int }{
		{big.NewInt(0), big.NewInt(0)}, {big.NewInt(0), big.NewInt(1)}, {big.NewInt(0), big.NewInt(-1)}, {big.NewInt(0), big.NewInt(-7)}, {big.NewInt(-8), big.NewInt(-7)}, {big.NewInt(1), big.NewInt(1)},
		{big.NewInt(-1), big.NewInt(7)}, {big.NewInt(7), big.NewInt(7)}, {big.NewInt(8), big.NewInt(7)}, {big.NewInt(2), big.NewInt(2)}, {big.NewInt(-1), big.NewInt(2)},
		{minus(power(100, 0)), power(100, 1)}, {power(100, 1), power(100, 1)}, {power(100, 2), power(100, 1)}, {power(100, 0), minus(power(100, 1))}, {power(16384, -1), power(16384, -1)},
		{big.NewInt(-1), power(16384, -1)}, {big.NewInt(5), minus(power(16384, -1))},
	} {
		if got, e := matrix.Rebuild(integer(c.x), integer(c.modulus)); e != api.ErrArg || frac.Sign(got) != 0 {
			t.Errorf("Rebuild(%v, %v) = %v, %d, want ErrArg", c.x, c.modulus, got, e)
		}
	}
	if got, e := matrix.Rebuild(wide.Int{}, wide.Int{}); e != api.ErrArg || frac.Sign(got) != 0 {
		t.Errorf("Rebuild(0, 0) = %v, %d, want ErrArg", got, e)
	}
	for x := range int64(2) {
		checkRebuilt(t, big.NewInt(x), big.NewInt(2), nil)
	}
}

// residue is p q' modulo m, where q' is the inverse of q, or nil if there is none.
func residue(p, q, m *big.Int) *big.Int {
	inverse := new(big.Int).ModInverse(q, m)
	if inverse == nil {
		return nil
	}
	return inverse.Mod(inverse.Mul(inverse, p), m)
}

// P14.6 and P14.10: at the greatest integer B, and beyond it.
func TestBoundsOfRebuild(t *testing.T) {
	source := rand.New(rand.NewSource(30))
	one := big.NewInt(1)
	for i := range 400 {
		most := new(big.Int).Rand(source, power(uint(i/2+2), 0))
		most.Add(most, big.NewInt(3))
		square := new(big.Int).Mul(most, most)
		square.Lsh(square, 1)
		above := new(big.Int).Add(most, one)
		next := new(big.Int).Mul(above, above)
		next.Lsh(next, 1)
		for _, m := range []*big.Int{new(big.Int).Add(square, one), new(big.Int).Add(square, big.NewInt(2)), next} { // B is most
			for _, p := range []*big.Int{most, new(big.Int).Neg(most), one, new(big.Int).Sub(most, one), new(big.Int).Rand(source, most)} {
				for _, q := range []*big.Int{most, one, new(big.Int).Sub(most, one), new(big.Int).Add(new(big.Int).Rand(source, most), one)} {
					if x := residue(p, q, m); x != nil {
						checkRebuilt(t, x, m, new(big.Rat).SetFrac(p, q))
					}
				}
			}
			// The only pairs that could be found are multiples of these, in which a number is greater than B.
			for _, pair := range [][2]*big.Int{{above, one}, {new(big.Int).Neg(above), one}, {one, above}} {
				if x := residue(pair[0], pair[1], m); x != nil && most.BitLen() > 3 {
					checkRebuilt(t, x, m, nil)
				}
			}
		}
	}
}

// P14.6 and P14.10: numbers of all lengths.
func TestRebuildOfGreatNumbers(t *testing.T) {
	source := rand.New(rand.NewSource(31))
	for i := range 300 {
		bits := uint(i*5 + 10)
		if i > 290 {
			bits = uint(16384 - (299-i)*200)
		}
		m := new(big.Int).Rand(source, power(bits-1, 0))
		m.Add(m, power(bits-1, 0))
		most := new(big.Int).Sqrt(new(big.Int).Rsh(new(big.Int).Sub(m, big.NewInt(1)), 1))
		for _, part := range []int{0, 1, 2} {
			p, q := new(big.Int).Rand(source, most), new(big.Int).Rand(source, most)
			p.Rsh(p, uint(most.BitLen()*part/3))
			q.Rsh(q, uint(most.BitLen()*source.Intn(3)/3))
			q.Add(q, big.NewInt(1))
			if source.Intn(2) == 0 {
				p.Neg(p)
			}
			if x := residue(p, q, m); x != nil {
				checkRebuilt(t, x, m, new(big.Rat).SetFrac(p, q))
			}
		}
		// nearly no number is a fraction
		x := new(big.Int).Rand(source, m)
		got, e := matrix.Rebuild(integer(x), integer(m))
		if e == api.OK {
			r := rational(got)
			rest := new(big.Int).Sub(r.Num(), new(big.Int).Mul(x, r.Denom()))
			if r.Denom().Cmp(most) > 0 || new(big.Int).Abs(r.Num()).Cmp(most) > 0 || rest.Mod(rest, m).Sign() != 0 {
				t.Fatalf("Rebuild(%v, %v) = %v", x, m, r)
			}
		} else if e != api.ErrNone || frac.Sign(got) != 0 {
			t.Fatalf("Rebuild(%v, %v) = %v, %d", x, m, got, e)
		}
	}
}

// P14.6: the greatest modulus, and squares and their neighbors.
func TestRebuildAtTheEndOfTheRange(t *testing.T) {
	for _, m := range []*big.Int{power(16384, -1), power(16383, 0), power(16383, 1), power(16383, -1), new(big.Int).Lsh(power(16380, 0), 1)} {
		most := new(big.Int).Sqrt(new(big.Int).Rsh(new(big.Int).Sub(m, big.NewInt(1)), 1))
		for _, q := range []*big.Int{big.NewInt(1), big.NewInt(7), most, new(big.Int).Sub(most, big.NewInt(2))} {
			for _, p := range []*big.Int{most, new(big.Int).Neg(most), new(big.Int).Sub(most, big.NewInt(1)), big.NewInt(-5)} {
				if x := residue(p, q, m); x != nil {
					checkRebuilt(t, x, m, new(big.Rat).SetFrac(p, q))
				}
			}
		}
		more := new(big.Int).Add(most, big.NewInt(1))
		checkRebuilt(t, more, m, nil)
		checkRebuilt(t, new(big.Int).Sub(m, more), m, nil)
		checkRebuilt(t, most, m, whole(most))
	}
}

// isTooLarge is when a system of ints is too large, word for word.
func isTooLarge(a [][]int, b []int) bool {
	list := slices.Clone(b)
	for _, row := range a {
		list = append(list, row...)
	}
	s := 1
	for _, n := range list {
		s = max(s, new(big.Int).Abs(big.NewInt(int64(n))).BitLen())
	}
	return len(a)*(s+4) > 7000
}

// checkLifted checks what Lifted returns, and returns its error.
func checkLifted(t *testing.T, a [][]int, b []int, prime int) api.Errno {
	t.Helper()
	x, e := matrix.Lifted(a, b, prime)
	want := api.OK
	if isTooLarge(a, b) {
		want = api.ErrLimit
	} else if isMultiple(detOf(a), prime) {
		want = api.ErrRank
	}
	if e != want || e != api.OK && len(x) > 0 {
		t.Fatalf("Lifted(%v, %v, %d) = %v, %d, want the error %d", a, b, prime, x, e, want)
	}
	if e != api.OK {
		return e
	}
	if len(x) != len(a) || !areEqual(gridOfInts(a).times(rationals(x)), gridOfInts([][]int{b})[0]) {
		t.Fatalf("Lifted(%v, %v, %d) = %v: not the solution", a, b, prime, x)
	}
	return e
}

// P14.7 and P14.10.
func TestLifted(t *testing.T) {
	source := rand.New(rand.NewSource(32))
	counts := map[api.Errno]int{}
	for range 2500 {
		n, prime := source.Intn(7)+1, somePrimes()[source.Intn(len(somePrimes()))]
		most := []int{2, 4, 1000, math.MaxInt32, math.MaxInt}[source.Intn(5)]
		counts[checkLifted(t, randomRows(source, n, most), randomInts(source, n, most), prime)]++
		counts[checkLifted(t, extremeRows(source, n), extremeRows(source, n)[0], prime)]++
	}
	if counts[api.OK] < 500 || counts[api.ErrRank] < 500 || counts[api.ErrLimit] > 0 {
		t.Errorf("errors: %v", counts)
	}
}

// P14.10: Lifted returns what Solve does, unless the prime divides the determinant.
func TestLiftedAndSolve(t *testing.T) {
	source := rand.New(rand.NewSource(33))
	for range 1000 {
		n, prime := source.Intn(9)+1, somePrimes()[source.Intn(len(somePrimes()))]
		a, b := randomRows(source, n, 50), randomInts(source, n, 1<<source.Intn(40))
		x, e1 := matrix.Lifted(a, b, prime)
		y, e2 := matrix.Solve(gridOfInts(a).matrix(), intFractions(b))
		if e1 == api.ErrRank && isMultiple(detOf(a), prime) {
			continue
		}
		if e1 != api.OK || e2 != api.OK || !slices.EqualFunc(x, y, func(p, q frac.Frac) bool { return frac.Compare(p, q) == 0 }) {
			t.Fatalf("%v, %v, %d: Lifted returns %v, %d, and Solve %v, %d", a, b, prime, x, e1, y, e2)
		}
	}
}

// P14.7: one unknown, with numbers of all sizes, for all primes.
func TestLiftedOfOne(t *testing.T) {
	for _, prime := range somePrimes() {
		for _, a := range []int{1, -1, 3, -7, math.MaxInt, math.MinInt, math.MinInt + 1, math.MaxInt - 1, 1 << 62, prime, -prime, prime + 1, 1 - prime} {
			for _, b := range []int{0, 1, -1, 5, math.MaxInt, math.MinInt, math.MaxInt - 1, 1 << 62, -1 << 62, prime, prime * prime, -prime} {
				checkLifted(t, [][]int{{a}}, []int{b}, prime)
			}
		}
	}
}

// P14.7: the limit, by numbers of a or of b, of the greatest or the least value.
func TestLimitsOfLifted(t *testing.T) {
	for _, c := range []struct{ n, bits int }{{128, 50}, {127, 51}, {125, 52}, {104, 63}, {103, 63}, {102, 64}, {101, 64}, {110, 59}, {100, 64}} {
		for _, bits := range []int{c.bits, c.bits + 1} {
			if bits > 64 {
				continue
			}
			list := []int{-1 << (bits - 1)}
			if bits < 64 {
				list = append(list, 1<<(bits-1), 1<<bits-1, 1-1<<bits)
			}
			for _, x := range list {
				want := api.OK
				if bits > c.bits {
					want = api.ErrLimit
				}
				a, b := unit(c.n), make([]int, c.n)
				a[c.n-1][0] = x
				inA, e1 := matrix.Lifted(a, b, 101)
				b[c.n-1] = x
				inB, e2 := matrix.Lifted(unit(c.n), b, math.MaxInt32)
				if e1 != want || e2 != want || want != api.OK && len(inA)+len(inB) > 0 || want == api.OK && rational(inB[c.n-1]).Cmp(number(x)) != 0 {
					t.Errorf("%d equations, the number %d: errors %d and %d, want %d", c.n, x, e1, e2, want)
				}
			}
		}
	}
	// ahead of ErrRank
	a := make([][]int, 128)
	for i := range a {
		a[i] = slices.Repeat([]int{1 << 50}, 128)
	}
	if x, e := matrix.Lifted(a, make([]int, 128), 3); e != api.ErrLimit || len(x) > 0 {
		t.Errorf("a large system without pivots: error %d, want ErrLimit", e)
	}
	for i := range a {
		a[i] = slices.Repeat([]int{1 << 49}, 128)
	}
	if x, e := matrix.Lifted(a, make([]int, 128), 3); e != api.ErrRank || len(x) > 0 {
		t.Errorf("a system without pivots: error %d, want ErrRank", e)
	}
}

// checkProduct checks that a x is b, in integers, because fractions with many equations take long.
func checkProduct(t *testing.T, a [][]int, b []int, x []frac.Frac) {
	t.Helper()
	list := rationals(x)
	_, common := size(list...)
	above := make([]*big.Int, len(list))
	for i, r := range list {
		above[i] = times(r, whole(common)).Num()
	}
	for i, row := range a {
		total := new(big.Int).Mul(common, big.NewInt(int64(b[i])))
		for j, n := range row {
			total.Sub(total, new(big.Int).Mul(above[j], big.NewInt(int64(n))))
		}
		if total.Sign() != 0 {
			t.Fatalf("row %d of %d is not fulfilled", i, len(a))
		}
	}
}

// P14.7: as large as systems may be.
func TestLiftedOfLargeSystems(t *testing.T) {
	source := rand.New(rand.NewSource(34))
	for _, c := range []struct{ n, bits, prime int }{{128, 50, math.MaxInt32}, {128, 50, 3}, {102, 62, 46349}, {102, 62, 46337}, {64, 62, 1291}, {50, 30, 5}, {30, 62, 2147483629}} {
		a := make([][]int, c.n)
		for i := range a {
			a[i] = randomInts(source, c.n, 1<<c.bits-1)
		}
		b := randomInts(source, c.n, 1<<c.bits-1)
		x, e := matrix.Lifted(a, b, c.prime)
		for e == api.ErrRank { // nearly every second matrix, for the prime 3
			a[source.Intn(c.n)][0]++
			x, e = matrix.Lifted(a, b, c.prime)
		}
		if e != api.OK || len(x) != c.n {
			t.Fatalf("%d equations, %d: error %d", c.n, c.prime, e)
		}
		checkProduct(t, a, b, x)
	}
}

// P14.7: numbers nearly as great as the limit allows, whose determinants have nearly as many digits, and no common divisors.
func TestLiftedOfGreatDeterminants(t *testing.T) {
	source := rand.New(rand.NewSource(35))
	for _, prime := range []int{5, 1291, 46349, math.MaxInt32} {
		a := make([][]int, 104)
		for i := range a {
			for range a {
				a[i] = append(a[i], (math.MaxInt-source.Intn(1000))*(2*source.Intn(2)-1))
			}
		}
		b := slices.Clone(a[17])
		b[5] -= 2
		x, e := matrix.Lifted(a, b, prime)
		for e == api.ErrRank {
			a[source.Intn(104)][0]--
			x, e = matrix.Lifted(a, b, prime)
		}
		if e != api.OK || len(x) != 104 {
			t.Fatalf("the prime %d: error %d", prime, e)
		}
		checkProduct(t, a, b, x)
	}
}

// sylvester has rows of n numbers, a power of 2, that are the number or its negative, with the greatest determinant that
// such a matrix has: n^(n/2) times the power of the number, by Hadamard.
func sylvester(n, x int) [][]int {
	a := [][]int{{x}}
	for len(a) < n {
		next := make([][]int, 0, 2*len(a))
		for _, row := range a {
			next = append(next, slices.Concat(row, row))
		}
		for _, row := range a {
			opposite := slices.Clone(row)
			for i := range opposite {
				opposite[i] = -opposite[i]
			}
			next = append(next, slices.Concat(row, opposite))
		}
		a = next
	}
	return a
}

// P14.7: the greatest determinant.
func TestLiftedOfTheGreatestDeterminant(t *testing.T) {
	for _, c := range []struct{ n, x, prime int }{{128, 1<<50 - 1, 3}, {128, 1<<50 - 1, 5}, {128, 1 - 1<<50, math.MaxInt32}, {64, math.MaxInt, 5}, {32, math.MinInt + 1, 46349}} {
		a, b := sylvester(c.n, c.x), make([]int, c.n)
		for i := range b {
			b[i] = (i*i*7919 - 1000*i) % c.x
		}
		x, e := matrix.Lifted(a, b, c.prime)
		if isMultiple(big.NewInt(int64(c.x)), c.prime) {
			if e != api.ErrRank || len(x) > 0 {
				t.Errorf("%v: error %d, want ErrRank", c, e)
			}
			continue
		}
		if e != api.OK || len(x) != c.n {
			t.Fatalf("%v: error %d", c, e)
		}
		checkProduct(t, a, b, x)
	}
}
