package poly

import (
	"math"
	"math/big"
	"math/rand"
	"testing"

	"skymosaic/api"
	"skymosaic/frac"
	"skymosaic/ival"
	"skymosaic/wide"
	"skymosaic/wire"
)

// names are the monomials in the order of the chapter, by the letters of their factors.
var names = [20]string{"", "x", "y", "h", "xx", "xy", "xh", "yy", "yh", "hh",
	"xxx", "xxy", "xxh", "xyy", "xyh", "xhh", "yyy", "yyh", "yhh", "hhh"}

// terms is a polynomial of the tests: coefficients by the letters of monomials, in the order x, y, h.
type terms map[string]*big.Int

func termsOf(c [20]int) terms {
	p := terms{}
	for i, name := range names {
		p[name] = big.NewInt(int64(c[i]))
	}
	return p
}

// coefficients returns the coefficients of p, and false if one is not valid.
func (p terms) coefficients() (c [20]int, ok bool) {
	for i, name := range names {
		n := p[name]
		if n == nil {
			continue
		}
		if new(big.Int).Abs(n).Cmp(big.NewInt(1<<30)) > 0 {
			return [20]int{}, false
		}
		c[i] = int(n.Int64())
	}
	return c, true
}

// add adds n times a monomial, whose letters may have any order.
func (p terms) add(name string, n *big.Int) {
	sorted := ""
	for _, letter := range "xyh" {
		for _, other := range name {
			if letter == other {
				sorted += string(letter)
			}
		}
	}
	if p[sorted] == nil {
		p[sorted] = new(big.Int)
	}
	p[sorted].Add(p[sorted], n)
}

// exactly returns the value of c at a point.
func exactly(c [20]int, at [3]*big.Rat) *big.Rat {
	total := new(big.Rat)
	for i, name := range names {
		term := new(big.Rat).SetInt64(int64(c[i]))
		for _, letter := range name {
			term.Mul(term, at[axisOf(letter)])
		}
		total.Add(total, term)
	}
	return total
}

func axisOf(letter rune) int {
	return map[rune]int{'x': 0, 'y': 1, 'h': 2}[letter]
}

// power2 is 2^n + more.
func power2(n uint, more int64) *big.Int {
	b := new(big.Int).Lsh(big.NewInt(1), n)
	return b.Add(b, big.NewInt(more))
}

func integer(b *big.Int) *big.Rat {
	return new(big.Rat).SetInt(b)
}

func minus(r *big.Rat) *big.Rat {
	return new(big.Rat).Neg(r)
}

func wideOf(b *big.Int) wide.Int {
	x, e := wide.Parse(b.String())
	if e != api.OK {
		panic(b.String())
	}
	return x
}

func fracOf(r *big.Rat) frac.Frac {
	x, e := frac.Make(wideOf(r.Num()), wideOf(r.Denom()))
	if e != api.OK {
		panic(r.String())
	}
	return x
}

func ratOf(x frac.Frac) *big.Rat {
	r, ok := new(big.Rat).SetString(x.String())
	if !ok {
		panic(x.String())
	}
	return r
}

func number(t *testing.T, s string) frac.Frac {
	t.Helper()
	x, e := frac.Parse(s)
	if e != api.OK {
		t.Fatalf("Parse(%s) returns the error %d", s, e)
	}
	return x
}

func interval(t *testing.T, lo, hi *big.Rat) ival.Ival {
	t.Helper()
	x, e := ival.Make(fracOf(lo), fracOf(hi))
	if e != api.OK {
		t.Fatalf("Make(%v, %v) returns the error %d", lo, hi, e)
	}
	return x
}

// point returns the interval of one fraction, as far as rounding permits.
func point(t *testing.T, r *big.Rat) ival.Ival {
	t.Helper()
	return interval(t, r, r)
}

// one returns the polynomial with one coefficient.
func one(i, n int) (c [20]int) {
	c[i] = n
	return c
}

// indexOf returns the position of a monomial.
func indexOf(name string) int {
	for i, other := range names {
		if other == name {
			return i
		}
	}
	panic(name)
}

// sample has the polynomial of the examples.
func sample() (c [20]int) {
	c[indexOf("")], c[indexOf("x")], c[indexOf("xh")] = 2, 3, -1
	return c
}

// randomPoly has coefficients of all sizes up to most, some of which are 0.
func randomPoly(source *rand.Rand, most int) (c [20]int) {
	for i := range c {
		c[i] = source.Intn(source.Intn(most)+1) * (source.Intn(3) - 1)
		if source.Intn(10) == 0 {
			c[i] = []int{-most, most}[source.Intn(2)]
		}
	}
	return c
}

// randomBig has at most most bits and any sign.
func randomBig(source *rand.Rand, most int) *big.Int {
	b := new(big.Int).Rand(source, power2(uint(source.Intn(most)+1), 0))
	if source.Intn(2) == 0 {
		b.Neg(b)
	}
	return b
}

// randomRat has a numerator and a denominator of at most most bits.
func randomRat(source *rand.Rand, most int) *big.Rat {
	below := randomBig(source, most)
	if below.Sign() == 0 || source.Intn(4) == 0 {
		below.SetInt64(1)
	}
	return new(big.Rat).SetFrac(randomBig(source, most), below)
}

func randomPoint(source *rand.Rand, most int) (at [3]*big.Rat) {
	for i := range at {
		at[i] = randomRat(source, most)
	}
	return at
}

// checkEval checks a value against package big (P8.2).
func checkEval(t *testing.T, c [20]int, at [3]*big.Rat) {
	t.Helper()
	got, e := Eval(c, fracOf(at[0]), fracOf(at[1]), fracOf(at[2]))
	if want := exactly(c, at); e != api.OK || ratOf(got).Cmp(want) != 0 {
		t.Fatalf("Eval(%v, %.200v) = %.200s, %d, want %.200s, OK", c, at, got, e, want.RatString())
	}
}

// checkInt checks a value at integers (P8.2, P8.8).
func checkInt(t *testing.T, c [20]int, x, y, h int) {
	t.Helper()
	at := [3]*big.Rat{big.NewRat(int64(x), 1), big.NewRat(int64(y), 1), big.NewRat(int64(h), 1)}
	got, e := Int(c, x, y, h)
	if want := exactly(c, at).RatString(); e != api.OK || got.String() != want {
		t.Fatalf("Int(%v, %d, %d, %d) = %v, %d, want %s, OK", c, x, y, h, got, e, want)
	}
	checkEval(t, c, at)
}

func TestExamplesOfTheChapter(t *testing.T) {
	c := sample()
	if n := Degree(c); n != 2 {
		t.Errorf("Degree = %d, want 2", n)
	}
	v, e := Eval(c, number(t, "1/2"), number(t, "0"), number(t, "4"))
	if v.String() != "3/2" || e != api.OK {
		t.Errorf("Eval = %v, %d, want 3/2, OK", v, e)
	}
	gradient, e := Grad(c)
	if want := [20]int{0: 3, 3: -1}; gradient[0] != want || e != api.OK {
		t.Errorf("the derivative with respect to x is %v, %d, want %v, OK", gradient[0], e, want)
	}
	shifted, e := Shift(c, 1, 0, 0)
	if want := [20]int{0: -1, 1: 3, 3: 1, 6: -1}; shifted != want || e != api.OK {
		t.Errorf("Shift by 1 in x is %v, %d, want %v, OK", shifted, e, want)
	}
}

// P8.1.
func TestValid(t *testing.T) {
	if e := Valid([20]int{}); e != api.OK {
		t.Errorf("Valid of zeros is %d, want OK", e)
	}
	for i := range names {
		for _, n := range []int{1 << 30, -1 << 30, 1, -1} {
			if e := Valid(one(i, n)); e != api.OK {
				t.Errorf("Valid for the coefficient %d of %q is %d, want OK", n, names[i], e)
			}
		}
		for _, n := range []int{1<<30 + 1, -1<<30 - 1, math.MaxInt, math.MinInt} {
			if e := Valid(one(i, n)); e != api.ErrArg {
				t.Errorf("Valid for the coefficient %d of %q is %d, want ErrArg", n, names[i], e)
			}
		}
	}
}

// P8.1: the polynomial is examined ahead of anything else that would be an error.
func TestErrorsOfPolynomialsComeFirst(t *testing.T) {
	great := fracOf(integer(power2(1001, 0)))
	greatest := point(t, integer(power2(8159, 0)))
	for i := range names {
		for _, n := range []int{1<<30 + 1, -1<<30 - 1, math.MaxInt, math.MinInt} {
			c := one(i, n)
			if v, e := Eval(c, great, great, great); e != api.ErrArg || v.String() != "0" {
				t.Errorf("Eval(%v) = %v, %d, want 0, ErrArg", c, v, e)
			}
			if v, e := Int(c, 5, 6, 7); e != api.ErrArg || v.String() != "0" {
				t.Errorf("Int(%v) = %v, %d, want 0, ErrArg", c, v, e)
			}
			if v, e := Enclose(c, greatest, greatest, greatest); e != api.ErrArg || v.String() != "[0, 0]" {
				t.Errorf("Enclose(%v) = %v, %d, want [0, 0], ErrArg", c, v, e)
			}
			if v, e := Grad(c); e != api.ErrArg || v != [3][20]int{} {
				t.Errorf("Grad(%v) = %v, %d, want zeros, ErrArg", c, v, e)
			}
			if v, e := Shift(c, 1<<40, 2, 3); e != api.ErrArg || v != [20]int{} {
				t.Errorf("Shift(%v) = %v, %d, want zeros, ErrArg", c, v, e)
			}
		}
	}
}

// P8.1: Grad and Shift would have valid results for these polynomials.
func TestInvalidPolynomialsWithValidResults(t *testing.T) {
	c := one(0, 1<<30+1)
	if v, e := Grad(c); e != api.ErrArg || v != [3][20]int{} {
		t.Errorf("Grad(%v) = %v, %d, want zeros, ErrArg", c, v, e)
	}
	c[1] = 1
	if v, e := Shift(c, 1, 0, 0); e != api.ErrArg || v != [20]int{} {
		t.Errorf("Shift(%v) = %v, %d, want zeros, ErrArg", c, v, e)
	}
	zero := number(t, "0")
	if v, e := Eval(c, zero, zero, zero); e != api.ErrArg || v.String() != "0" {
		t.Errorf("Eval(%v) = %v, %d, want 0, ErrArg", c, v, e)
	}
	if v, e := Enclose(c, ival.Ival{}, ival.Ival{}, ival.Ival{}); e != api.ErrArg || v.String() != "[0, 0]" {
		t.Errorf("Enclose(%v) = %v, %d, want [0, 0], ErrArg", c, v, e)
	}
}

// P8.2: each monomial, at points whose coordinates differ.
func TestValuesOfMonomials(t *testing.T) {
	for i := range names {
		for _, n := range []int{1, -1, 7, 1 << 30, -1 << 30} {
			c := one(i, n)
			checkInt(t, c, 2, 3, 5)
			checkInt(t, c, -2, 3, -5)
			checkInt(t, c, 0, 3, 5)
			checkInt(t, c, 2, 0, 5)
			checkInt(t, c, 2, 3, 0)
			checkEval(t, c, [3]*big.Rat{big.NewRat(2, 3), big.NewRat(5, 7), big.NewRat(-11, 13)})
			checkEval(t, c, [3]*big.Rat{big.NewRat(-3, 2), big.NewRat(4, 1), big.NewRat(9, 4)})
		}
	}
}

// P8.2.
func TestValuesAtRandomPoints(t *testing.T) {
	source := rand.New(rand.NewSource(8))
	for range 3000 {
		checkEval(t, randomPoly(source, 1<<30), randomPoint(source, 64))
		checkEval(t, randomPoly(source, 9), randomPoint(source, 4))
	}
	for range 20 {
		checkEval(t, randomPoly(source, 1<<30), randomPoint(source, 1000))
	}
}

// P8.2: the greatest and least ints.
func TestValuesAtIntegers(t *testing.T) {
	source := rand.New(rand.NewSource(9))
	some := []int{0, 1, -1, 2, 1 << 20, -1 << 20, 1 << 31, 1 << 32, math.MaxInt, math.MinInt, math.MaxInt - 1, math.MinInt + 1}
	for range 3000 {
		at := [3]int{}
		for i := range at {
			at[i] = some[source.Intn(len(some))]
			if source.Intn(2) == 0 {
				at[i] = int(source.Uint64() >> source.Intn(64))
			}
		}
		checkInt(t, randomPoly(source, 1<<30), at[0], at[1], at[2])
	}
}

// P8.2: all coordinates have as many digits as they may, so that values before they are in lowest terms are the greatest.
func TestGreatestValues(t *testing.T) {
	all := [20]int{}
	for i := range all {
		all[i] = 1 << 30
	}
	above, below := power2(1000, -1), [3]*big.Int{power2(1000, -3), power2(1000, -5), power2(1000, -9)}
	at, negative, integers := [3]*big.Rat{}, [3]*big.Rat{}, [3]*big.Rat{}
	for i := range at {
		at[i] = new(big.Rat).SetFrac(above, below[i])
		negative[i] = minus(at[i])
		integers[i] = integer(above)
	}
	checkEval(t, all, at)
	checkEval(t, all, negative)
	checkEval(t, all, integers)
}

// P8.2: more than 1000 digits above or below, in each coordinate, even in one that is not needed.
func TestLimitOfDigits(t *testing.T) {
	allowed := []*big.Rat{
		integer(power2(999, 0)), integer(power2(1000, -1)), minus(integer(power2(1000, -1))),
		new(big.Rat).SetFrac(big.NewInt(1), power2(999, 0)), new(big.Rat).SetFrac(big.NewInt(-1), power2(1000, -1)),
		new(big.Rat).SetFrac(power2(1000, -1), power2(999, 0)),
	}
	tooLong := []*big.Rat{
		integer(power2(1000, 0)), minus(integer(power2(1000, 0))), integer(power2(1001, -1)), integer(power2(16384, -1)),
		new(big.Rat).SetFrac(big.NewInt(1), power2(1000, 0)), new(big.Rat).SetFrac(big.NewInt(-3), power2(16384, -1)),
		new(big.Rat).SetFrac(power2(1000, -1), power2(1000, 0)),
	}
	for axis := range 3 {
		for _, c := range [][20]int{{}, one(0, 5), sample(), one(1+axis, 1)} {
			at := [3]*big.Rat{big.NewRat(1, 2), big.NewRat(1, 3), big.NewRat(1, 5)}
			for _, r := range allowed {
				at[axis] = r
				checkEval(t, c, at)
			}
			for _, r := range tooLong {
				at[axis] = r
				if v, e := Eval(c, fracOf(at[0]), fracOf(at[1]), fracOf(at[2])); e != api.ErrLimit || v.String() != "0" {
					t.Errorf("Eval(%v) at %.50s in place %d = %.200v, %d, want 0, ErrLimit", c, r, axis, v, e)
				}
			}
		}
	}
}

// P8.5.
func TestDegree(t *testing.T) {
	if n := Degree([20]int{}); n != -1 {
		t.Errorf("Degree of zeros = %d, want -1", n)
	}
	for i, name := range names {
		for _, n := range []int{1, -1, math.MaxInt, math.MinInt} {
			if got := Degree(one(i, n)); got != len(name) {
				t.Errorf("Degree of %d %q = %d", n, name, got)
			}
			for k, other := range names {
				c := one(i, n)
				c[k] = 3
				if got := Degree(c); got != max(len(name), len(other)) {
					t.Errorf("Degree of %d %q + 3 %q = %d", n, name, other, got)
				}
			}
		}
	}
}

// P8.5.
func TestDigits(t *testing.T) {
	check := func(r *big.Rat) {
		t.Helper()
		if got, want := Digits(fracOf(r)), max(r.Num().BitLen(), r.Denom().BitLen()); got != want {
			t.Fatalf("Digits of %.100s = %d, want %d", r, got, want)
		}
	}
	checkPowers := func(n uint) {
		t.Helper()
		for _, more := range []int64{-1, 0} {
			b := power2(n, more)
			check(integer(b))
			check(minus(integer(b)))
			if b.Sign() > 0 {
				check(new(big.Rat).SetFrac(big.NewInt(1), b))
				check(new(big.Rat).SetFrac(big.NewInt(-1), b))
			}
		}
	}
	for n := range uint(200) {
		checkPowers(n)
	}
	for _, unit := range []uint{248, 310, 372, 496, 992, 1000, 1984, 3968, 4096, 7936, 8192, 15872, 16000, 16382} {
		checkPowers(unit - 1)
		checkPowers(unit)
		checkPowers(unit + 1)
	}
	check(integer(power2(16384, -1)))
	check(new(big.Rat).SetFrac(power2(16384, -2), power2(16384, -1)))
	check(new(big.Rat).SetFrac(power2(5000, 1), power2(5001, 0)))
	check(new(big.Rat).SetFrac(power2(5002, 1), power2(5001, 0)))
	source := rand.New(rand.NewSource(10))
	for range 300 {
		check(randomRat(source, 200))
	}
	for range 30 {
		check(randomRat(source, 5000))
	}
}

// P8.6.
func TestCodes(t *testing.T) {
	source := rand.New(rand.NewSource(11))
	list := [][20]int{{}, sample()}
	for range 100 {
		list = append(list, randomPoly(source, 1<<30), randomPoly(source, 100), randomPoly(source, math.MaxInt))
	}
	for i := range names {
		list = append(list, one(i, math.MinInt), one(i, 1), one(i, -300))
	}
	for _, c := range list {
		w := wire.Writer{}
		for _, n := range c {
			w.Int(n)
		}
		b := Encode(c)
		if string(b) != string(w.Done()) {
			t.Fatalf("Encode(%v) = %v", c, b)
		}
		if got, e := Decode(b); got != c || e != api.OK {
			t.Fatalf("Decode(%v) = %v, %d, want %v, OK", b, got, e, c)
		}
		for size := range b {
			checkNoCode(t, b[:size])
		}
		checkNoCode(t, append(b, 0))
		checkNoCode(t, append(b, 5, 1))
	}
}

func checkNoCode(t *testing.T, b []byte) {
	t.Helper()
	if got, e := Decode(b); got != [20]int{} || e != api.ErrForm {
		t.Fatalf("Decode(%v) = %v, %d, want zeros, ErrForm", b, got, e)
	}
}

// P8.6: numbers in more bytes than they need, or greater than any int.
func TestMalformedCodes(t *testing.T) {
	for i := range names {
		for _, wrong := range [][]byte{{128, 0}, {255, 255, 255, 255, 255, 255, 255, 255, 255, 2}, {128}} {
			b := append(make([]byte, i), wrong...)
			checkNoCode(t, append(b, make([]byte, 19-i)...))
		}
	}
	checkNoCode(t, nil)
	checkNoCode(t, []byte{})
}
