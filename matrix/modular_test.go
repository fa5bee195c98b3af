package matrix_test

import (
	"math"
	"math/big"
	"math/rand"
	"slices"
	"testing"

	"skymosaic/api"
	"skymosaic/frac"
	"skymosaic/matrix"
)

// somePrimes has the least and the greatest ones, and those next to the square root of the greatest one.
func somePrimes() []int {
	return []int{2, 3, 5, 7, 11, 13, 101, 251, 257, 1289, 1291, 32749, 32771, 46337, 46349, 65521, 65537, 1048573, 1073741789, 1073741827, 2147483629, math.MaxInt32}
}

func randomInts(source *rand.Rand, count, most int) []int {
	list := make([]int, count)
	for i := range list {
		list[i] = source.Intn(most) - source.Intn(most)
	}
	return list
}

// randomRows has n rows of n numbers, sometimes with two equal ones.
func randomRows(source *rand.Rand, n, most int) [][]int {
	a := make([][]int, n)
	for i := range a {
		a[i] = randomInts(source, n, most)
	}
	if source.Intn(4) == 0 {
		a[source.Intn(n)] = slices.Clone(a[0])
	}
	return a
}

// extremeRows has numbers near the ends of the range of ints.
func extremeRows(source *rand.Rand, n int) [][]int {
	list := []int{math.MinInt, math.MinInt + 1, math.MaxInt, math.MaxInt - 1, math.MinInt32, math.MaxUint32, 1 << 32, -1 << 32, 1 << 62, -1 << 62, 0, 1, -1}
	a := make([][]int, n)
	for i := range a {
		for range n {
			a[i] = append(a[i], list[source.Intn(len(list))])
		}
	}
	return a
}

// detOf is the determinant, by eliminating with fractions.
func detOf(a [][]int) *big.Int {
	form, det := gridOfInts(a), number(1)
	for column := range form {
		i := slices.IndexFunc(form[column:], func(row []*big.Rat) bool { return row[column].Sign() != 0 })
		if i < 0 {
			return new(big.Int)
		}
		if i > 0 {
			form[column], form[column+i] = form[column+i], form[column]
			det.Neg(det)
		}
		pivot := form[column]
		det.Mul(det, pivot[column])
		for _, row := range form[column+1:] {
			factor := new(big.Rat).Quo(row[column], pivot[column])
			for j := column; j < len(row); j++ {
				row[j] = minus(row[j], times(factor, pivot[j]))
			}
		}
	}
	return det.Num()
}

// left is a x - b, row by row.
func left(a [][]int, b, x []int) []*big.Int {
	result := make([]*big.Int, len(a))
	for i, row := range a {
		result[i] = new(big.Int).Neg(big.NewInt(int64(b[i])))
		for j, n := range row {
			result[i].Add(result[i], new(big.Int).Mul(big.NewInt(int64(n)), big.NewInt(int64(x[j]))))
		}
	}
	return result
}

func isMultiple(x *big.Int, prime int) bool {
	return new(big.Int).Mod(x, big.NewInt(int64(prime))).Sign() == 0
}

// checkModular checks what Modular returns, and returns its error.
func checkModular(t *testing.T, a [][]int, b []int, prime int) api.Errno {
	t.Helper()
	x, e := matrix.Modular(a, b, prime)
	if isMultiple(detOf(a), prime) {
		if e != api.ErrRank || len(x) > 0 {
			t.Fatalf("Modular(%v, %v, %d) = %v, %d, want ErrRank", a, b, prime, x, e)
		}
		return e
	}
	if e != api.OK || len(x) != len(a) || slices.Min(x) < 0 || slices.Max(x) >= prime {
		t.Fatalf("Modular(%v, %v, %d) = %v, %d", a, b, prime, x, e)
	}
	for _, rest := range left(a, b, x) {
		if !isMultiple(rest, prime) {
			t.Fatalf("Modular(%v, %v, %d) = %v: not a solution", a, b, prime, x)
		}
	}
	return e
}

// P14.5: all solutions counted.
func TestModularOfSmallPrimes(t *testing.T) {
	source := rand.New(rand.NewSource(20))
	for range 3000 {
		n, prime := source.Intn(3)+1, []int{2, 3, 5, 7}[source.Intn(4)]
		a, b := randomRows(source, n, 12), randomInts(source, n, 12)
		found := [][]int{}
		x := make([]int, n)
		for code := range int(math.Pow(float64(prime), float64(n))) {
			for i := range x {
				x[i] = code % prime
				code /= prime
			}
			if !slices.ContainsFunc(left(a, b, x), func(rest *big.Int) bool { return !isMultiple(rest, prime) }) {
				found = append(found, slices.Clone(x))
			}
		}
		got, e := matrix.Modular(a, b, prime)
		if len(found) == 1 && (e != api.OK || !slices.Equal(got, found[0])) || len(found) != 1 && (e != api.ErrRank || len(got) > 0) {
			t.Fatalf("Modular(%v, %v, %d) = %v, %d, but the solutions are %v", a, b, prime, got, e, found)
		}
	}
}

// P14.5.
func TestModular(t *testing.T) {
	source := rand.New(rand.NewSource(21))
	counts := map[api.Errno]int{}
	for range 2000 {
		n, prime := source.Intn(8)+1, somePrimes()[source.Intn(len(somePrimes()))]
		most := []int{2, 5, 1000, math.MaxInt32, math.MaxInt}[source.Intn(5)]
		counts[checkModular(t, randomRows(source, n, most), randomInts(source, n, most), prime)]++
		counts[checkModular(t, extremeRows(source, n), extremeRows(source, n)[0], prime)]++
		// multiples of the prime, and numbers next to them
		a := randomRows(source, n, 3)
		for i, x := range a[source.Intn(n)] {
			a[source.Intn(n)][i] = x * prime
		}
		counts[checkModular(t, a, randomInts(source, n, prime), prime)]++
	}
	if counts[api.OK] < 500 || counts[api.ErrRank] < 500 {
		t.Errorf("errors: %v", counts)
	}
	for _, n := range []int{40, 127, 128} {
		a, b := make([][]int, n), randomInts(source, n, math.MaxInt)
		for i := range a {
			a[i] = randomInts(source, n, math.MaxInt)
		}
		for _, prime := range []int{1073741827, math.MaxInt32} {
			x, e := matrix.Modular(a, b, prime)
			if e != api.OK || len(x) != n || slices.Min(x) < 0 || slices.Max(x) >= prime {
				t.Fatalf("Modular of %d equations and %d returns the error %d", n, prime, e)
			}
			if slices.ContainsFunc(left(a, b, x), func(rest *big.Int) bool { return !isMultiple(rest, prime) }) {
				t.Fatalf("Modular of %d equations and %d: not a solution", n, prime)
			}
		}
	}
}

// unit is the unit matrix.
func unit(n int) [][]int {
	a := make([][]int, n)
	for i := range a {
		a[i] = make([]int, n)
		a[i][i] = 1
	}
	return a
}

// checkArguments checks the error ErrArg, or none, of Modular and of Lifted.
func checkArguments(t *testing.T, name string, a [][]int, b []int, prime int, want api.Errno) {
	t.Helper()
	x, e := matrix.Modular(a, b, prime)
	if e != want || e != api.OK && len(x) > 0 {
		t.Errorf("%s: Modular returns the error %d, want %d", name, e, want)
	}
	y, e := matrix.Lifted(a, b, prime)
	if e != want || e != api.OK && len(y) > 0 {
		t.Errorf("%s: Lifted returns the error %d, want %d", name, e, want)
	}
}

// P14.5 and P14.7.
func TestPrimes(t *testing.T) {
	for n := -10; n < 3000; n++ {
		want := api.OK
		if n < 2 || !big.NewInt(int64(n)).ProbablyPrime(20) {
			want = api.ErrArg
		}
		checkArguments(t, big.NewInt(int64(n)).String(), unit(1), []int{1}, n, want)
	}
	for _, prime := range somePrimes() {
		if !big.NewInt(int64(prime)).ProbablyPrime(20) {
			t.Errorf("%d is no prime", prime)
		}
		checkArguments(t, "a prime", unit(2), []int{1, 2}, prime, api.OK)
	}
	for _, n := range []int{46337 * 46337, 46327 * 46337, 46309 * 46337, 46339 * 46341, 2 * 1073741789, 3 * 715827881, 1 << 31, 1 << 30, 1<<31 - 2, 1<<31 - 3, 2147483659, 4294967291, 4294967311,
		1<<61 - 1, 1 << 62, math.MaxInt, math.MinInt, -2, -3, -math.MaxInt32, 46337 * 46337 * 46337} {
		checkArguments(t, big.NewInt(int64(n)).String(), unit(2), []int{1, 2}, n, api.ErrArg)
	}
}

// P14.5 and P14.7.
func TestArgumentsOfSystems(t *testing.T) {
	for _, n := range []int{1, 2, 127, 128} {
		checkArguments(t, "a system", unit(n), make([]int, n), 7, api.OK)
	}
	ragged := func(i, length int) [][]int {
		a := unit(3)
		a[i] = make([]int, length)
		return a
	}
	for _, c := range []struct {
		name string
		a    [][]int
		b    []int
	}{
		{"no rows", nil, nil}, {"no rows, a number", [][]int{}, []int{1}}, {"too many rows", unit(129), make([]int, 129)},
		{"too many rows without numbers", make([][]int, 129), make([]int, 129)}, {"no numbers", unit(1), nil}, {"too few numbers", unit(3), []int{1, 2}}, {"too many numbers", unit(3), []int{1, 2, 3, 4}},
		{"short first row", ragged(0, 2), []int{1, 2, 3}}, {"short middle row", ragged(1, 2), []int{1, 2, 3}}, {"short last row", ragged(2, 2), []int{1, 2, 3}},
		{"long first row", ragged(0, 4), []int{1, 2, 3}}, {"long middle row", ragged(1, 4), []int{1, 2, 3}}, {"long last row", ragged(2, 4), []int{1, 2, 3}},
		{"an empty row", ragged(1, 0), []int{1, 2, 3}}, {"an empty matrix", [][]int{{}}, []int{1}}, {"only empty rows", [][]int{{}, {}}, []int{1, 2}},
		{"more columns", [][]int{{1, 2}}, []int{1}}, {"more rows", [][]int{{1}, {2}}, []int{1, 2}},
		{"more rows, fewer numbers", [][]int{{1}, {2}}, []int{1}},
	} {
		checkArguments(t, c.name, c.a, c.b, 7, api.ErrArg)
		checkArguments(t, c.name, c.a, c.b, 8, api.ErrArg)
	}
	// ahead of ErrRank and ErrLimit
	for _, n := range []int{2, 128} {
		a := make([][]int, n)
		for i := range a {
			a[i] = slices.Repeat([]int{math.MaxInt}, n)
		}
		checkArguments(t, "no prime", a, make([]int, n), 9, api.ErrArg)
		checkArguments(t, "a number missing", a, make([]int, n-1), 7, api.ErrArg)
	}
}

// P14.10: what Solve returns is, modulo a prime, what Modular returns.
func TestSolutionsModuloPrimes(t *testing.T) {
	source := rand.New(rand.NewSource(22))
	count := 0
	for range 1500 {
		n, prime := source.Intn(6)+1, somePrimes()[source.Intn(len(somePrimes()))]
		most := []int{3, 1000, math.MaxInt32}[source.Intn(3)]
		a, b := randomRows(source, n, most), randomInts(source, n, most)
		x, e := matrix.Solve(gridOfInts(a).matrix(), intFractions(b))
		if e != api.OK {
			continue
		}
		rests, e := matrix.Modular(a, b, prime)
		if e != api.OK {
			continue
		}
		for i, r := range rationals(x) {
			if isMultiple(r.Denom(), prime) {
				t.Fatalf("%v, %v: the prime %d divides the denominator of %v", a, b, prime, r)
			}
			rest := new(big.Int).Sub(r.Num(), new(big.Int).Mul(r.Denom(), big.NewInt(int64(rests[i]))))
			if !isMultiple(rest, prime) {
				t.Fatalf("%v, %v: the solution is %v, and modulo %d it is %v", a, b, x, prime, rests)
			}
			count++
		}
	}
	if count < 1000 {
		t.Errorf("only %d numbers were compared", count)
	}
}

func intFractions(list []int) []frac.Frac {
	result := make([]frac.Frac, len(list))
	for i, n := range list {
		result[i], _ = frac.Of(n, 1)
	}
	return result
}
