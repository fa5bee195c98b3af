package frac

import (
	"math"
	"math/big"
	"math/rand"
	"reflect"
	"slices"
	"strconv"
	"strings"
	"testing"

	"skymosaic/api"
	"skymosaic/wide"
)

// wideOf is the wide integer b, which has to be in range.
func wideOf(b *big.Int) wide.Int {
	x, e := wide.Parse(b.String())
	if e != api.OK {
		panic(b.String())
	}
	return x
}

func bigOf(x wide.Int) *big.Int {
	b, ok := new(big.Int).SetString(x.String(), 10)
	if !ok {
		panic(x.String())
	}
	return b
}

// fracOf is the Frac of r, made without the functions of the package.
func fracOf(r *big.Rat) Frac {
	if r.IsInt() {
		return Frac{num: wideOf(r.Num())}
	}
	return Frac{wideOf(r.Num()), wideOf(r.Denom())}
}

// ratOf is the number that a stands for; a has to have the only form of it.
func ratOf(t *testing.T, a Frac) *big.Rat {
	t.Helper()
	num, den := bigOf(a.Num()), bigOf(a.Den())
	common := new(big.Int).GCD(nil, nil, new(big.Int).Abs(num), den)
	if den.Sign() <= 0 || common.Cmp(big.NewInt(1)) != 0 {
		t.Fatalf("%v/%v is not in lowest terms", num, den)
	}
	r := new(big.Rat).SetFrac(num, den)
	if !reflect.DeepEqual(a, fracOf(r)) {
		t.Fatalf("%v is kept as %v and %v", r, a.num, a.den)
	}
	return r
}

// short is what a message says of r.
func short(r *big.Rat) string {
	text := r.RatString()
	if len(text) <= 200 {
		return text
	}
	return text[:100] + ".. (" + strconv.Itoa(r.Num().BitLen()) + " and " + strconv.Itoa(r.Denom().BitLen()) + " bits)"
}

func isZeroValue(a Frac) bool {
	return reflect.DeepEqual(a, Frac{})
}

// power2 is 2^n + more.
func power2(n uint, more int64) *big.Int {
	b := new(big.Int).Lsh(big.NewInt(1), n)
	return b.Add(b, big.NewInt(more))
}

func times(a, b *big.Int) *big.Int {
	return new(big.Int).Mul(a, b)
}

func rat(p, q *big.Int) *big.Rat {
	return new(big.Rat).SetFrac(p, q)
}

func whole(p *big.Int) *big.Rat {
	return new(big.Rat).SetInt(p)
}

// of is p / q, which has to be a fraction.
func of(t *testing.T, p, q int) Frac {
	t.Helper()
	a, e := Of(p, q)
	if e != api.OK {
		t.Fatalf("Of(%d, %d) returns the error %d", p, q, e)
	}
	return a
}

func areWide(list ...*big.Int) bool {
	return !slices.ContainsFunc(list, func(b *big.Int) bool { return b.BitLen() > 16384 })
}

// sumParts returns the integers that have to be in range for Add to return the sum of a and b.
func sumParts(a, b *big.Rat) []*big.Int {
	common := new(big.Int).GCD(nil, nil, a.Denom(), b.Denom())
	mine, other := new(big.Int).Quo(a.Denom(), common), new(big.Int).Quo(b.Denom(), common)
	left, right := times(a.Num(), other), times(b.Num(), mine)
	return []*big.Int{left, right, new(big.Int).Add(left, right), times(mine, b.Denom())}
}

func sumIsKnown(a, b *big.Rat) bool {
	return areWide(sumParts(a, b)...)
}

func isInRange(r *big.Rat) bool {
	return areWide(r.Num(), r.Denom())
}

// randomBig has from 1 to most bits and any sign, unless it is 0.
func randomBig(source *rand.Rand, most int) *big.Int {
	b := new(big.Int).Rand(source, power2(uint(source.Intn(most)+1), 0))
	if source.Intn(2) == 0 {
		b.Neg(b)
	}
	return b
}

// randomRat has a numerator and a denominator of at most most bits, which have many small divisors, so that they often
// share divisors with others.
func randomRat(source *rand.Rand, most int) *big.Rat {
	smooth := func() *big.Int {
		b := big.NewInt(1)
		for b.BitLen() < source.Intn(most-2) {
			b.Mul(b, big.NewInt(int64([]int{2, 2, 3, 5, 7}[source.Intn(5)])))
		}
		return b
	}
	mixed := func() *big.Int {
		b := smooth()
		return b.Mul(b, randomBig(source, most-b.BitLen()))
	}
	p, q := mixed(), mixed()
	if q.Sign() == 0 {
		q.SetInt64(6)
	}
	return rat(p, q)
}

// someRats has fractions of both signs, with the ends of the range, some of which are neighbors.
func someRats() []*big.Rat {
	list := []*big.Rat{new(big.Rat)}
	add := func(p, q *big.Int) {
		for _, r := range []*big.Rat{rat(p, q), rat(q, p)} {
			list = append(list, r, new(big.Rat).Neg(r))
		}
	}
	for _, c := range [][2]int64{{1, 1}, {1, 2}, {2, 3}, {5, 6}, {7, 10}, {4, 1}, {1 << 31, 3}, {math.MaxInt64, 2}, {math.MaxInt64, math.MaxInt64 - 1}} {
		add(big.NewInt(c[0]), big.NewInt(c[1]))
	}
	for _, n := range []uint{32, 64, 1000, 8191, 8192, 16383} {
		for _, more := range []int64{-1, 0, 1} {
			add(power2(n, more), big.NewInt(1))
			add(power2(n, more), big.NewInt(30))
			add(power2(n, more), power2(n, more-1))
		}
	}
	for _, more := range []int64{-1, -2, -3} {
		add(power2(16384, more), big.NewInt(1))
		add(power2(16384, more), power2(16384, more-1))
		add(power2(16384, more), power2(8192, 0))
	}
	return list
}

// checkResult checks the result and the error of an operation on two fractions.
func checkResult(t *testing.T, name string, a, b *big.Rat, got Frac, e api.Errno, want *big.Rat, isKnown bool) {
	t.Helper()
	if !isKnown {
		if e != api.ErrLimit || !isZeroValue(got) {
			t.Fatalf("%s(%s, %s) = %.200s, %d, want 0, ErrLimit", name, short(a), short(b), got.String(), e)
		}
		return
	}
	if e != api.OK || ratOf(t, got).Cmp(want) != 0 {
		t.Fatalf("%s(%s, %s) = %.200s, %d, want %s, OK", name, short(a), short(b), got.String(), e, short(want))
	}
}

// checkPair checks what all functions of two fractions return (P4.2, P4.3 and P4.5) against package big.
func checkPair(t *testing.T, a, b *big.Rat) {
	t.Helper()
	x, y := fracOf(a), fracOf(b)
	total, e := Add(x, y)
	checkResult(t, "Add", a, b, total, e, new(big.Rat).Add(a, b), sumIsKnown(a, b))
	left, e := Sub(x, y)
	checkResult(t, "Sub", a, b, left, e, new(big.Rat).Sub(a, b), sumIsKnown(a, new(big.Rat).Neg(b)))
	want := new(big.Rat).Mul(a, b)
	multiple, e := Mul(x, y)
	checkResult(t, "Mul", a, b, multiple, e, want, isInRange(want))
	part, e := Div(x, y)
	if b.Sign() != 0 {
		want = new(big.Rat).Quo(a, b)
		checkResult(t, "Div", a, b, part, e, want, isInRange(want))
	} else if e != api.ErrArg || !isZeroValue(part) {
		t.Fatalf("Div(%s, 0) = %.200s, %d, want 0, ErrArg", short(a), part.String(), e)
	}
	if got := Compare(x, y); got != a.Cmp(b) {
		t.Fatalf("Compare(%s, %s) = %d, want %d", short(a), short(b), got, a.Cmp(b))
	}
}

func TestExamplesOfTheChapter(t *testing.T) {
	if a, e := Of(6, -8); a.String() != "-3/4" || a.Num().String() != "-3" || a.Den().String() != "4" || e != api.OK {
		t.Errorf("Of(6, -8) = %v, %d, want -3/4, OK", a, e)
	}
	if total, e := Add(of(t, 1, 2), of(t, 1, 3)); total.String() != "5/6" || e != api.OK {
		t.Errorf("1/2 + 1/3 = %v, %d, want 5/6, OK", total, e)
	}
	if part, e := Div(of(t, 1, 1), of(t, 0, 1)); !isZeroValue(part) || e != api.ErrArg {
		t.Errorf("1 / 0 = %v, %d, want 0, ErrArg", part, e)
	}
	if result, e := Pow(of(t, 2, 3), 3); result.String() != "8/27" || e != api.OK {
		t.Errorf("(2/3)^3 = %v, %d, want 8/27, OK", result, e)
	}
	for _, s := range []string{"2/4", "3/1"} {
		if a, e := Parse(s); !isZeroValue(a) || e != api.ErrForm {
			t.Errorf("Parse(%q) = %v, %d, want 0, ErrForm", s, a, e)
		}
	}
}

// P4.1.
func TestOf(t *testing.T) {
	list := []int{math.MinInt, math.MinInt + 1, math.MaxInt, math.MaxInt - 1, math.MinInt32, math.MaxInt32, math.MaxUint32, 1 << 32, -1 << 40, 3 << 50}
	for n := range 61 {
		list = append(list, n-30)
	}
	for _, p := range list {
		for _, q := range list {
			a, e := Of(p, q)
			if q == 0 {
				if e != api.ErrArg || !isZeroValue(a) {
					t.Errorf("Of(%d, 0) = %v, %d, want 0, ErrArg", p, a, e)
				}
				continue
			}
			if want := big.NewRat(int64(p), int64(q)); e != api.OK || ratOf(t, a).Cmp(want) != 0 {
				t.Errorf("Of(%d, %d) = %v, %d, want %v, OK", p, q, a, e, want)
			}
		}
	}
}

func checkMake(t *testing.T, p, q *big.Int) {
	t.Helper()
	a, e := Make(wideOf(p), wideOf(q))
	if q.Sign() == 0 {
		if e != api.ErrArg || !isZeroValue(a) {
			t.Fatalf("Make(%v, 0) = %v, %d, want 0, ErrArg", p, a, e)
		}
		return
	}
	if want := rat(p, q); e != api.OK || ratOf(t, a).Cmp(want) != 0 {
		t.Fatalf("Make(%v, %v) = %v, %d, want %v, OK", p, q, a, e, want)
	}
}

// P4.1.
func TestMake(t *testing.T) {
	source := rand.New(rand.NewSource(1))
	for range 3000 {
		p, q, common := randomBig(source, 150), randomBig(source, 150), randomBig(source, 100)
		checkMake(t, p, q)
		checkMake(t, times(p, common), times(q, common))
		checkMake(t, times(p, q), q)
		checkMake(t, p, new(big.Int))
	}
	ends := []*big.Int{new(big.Int), big.NewInt(1), big.NewInt(3), power2(16383, 0), power2(16384, -1), power2(16384, -2), power2(8192, -1)}
	for _, p := range ends {
		for _, q := range ends {
			for _, minus := range []*big.Int{big.NewInt(1), big.NewInt(-1)} {
				checkMake(t, p, times(q, minus))
				checkMake(t, times(p, minus), q)
				checkMake(t, times(p, minus), times(q, minus))
			}
		}
	}
}

// The words of the chapter: the zero value of Frac stands for 0.
func TestZeroValue(t *testing.T) {
	zero := Frac{}
	if wide.Sign(zero.Num()) != 0 || zero.Den().String() != "1" || zero.String() != "0" || Sign(zero) != 0 {
		t.Errorf("the zero value is %v / %v, with the text %v", zero.Num(), zero.Den(), zero)
	}
	if Compare(zero, of(t, 0, -7)) != 0 || Compare(zero, of(t, 1, 9)) != -1 || Compare(zero, of(t, -1, 9)) != 1 {
		t.Error("Compare takes the zero value for another number than 0")
	}
	for _, r := range someRats() {
		checkPair(t, new(big.Rat), r)
		checkPair(t, r, new(big.Rat))
	}
	for n, want := range []int{1, 0, 0, 0} {
		if result, e := Pow(zero, n); e != api.OK || Compare(result, of(t, want, 1)) != 0 {
			t.Errorf("Pow of the zero value and %d = %v, %d, want %d, OK", n, result, e, want)
		}
	}
}

// P4.2, P4.3 and P4.5.
func TestPairsOfSmallFractions(t *testing.T) {
	list := []*big.Rat{}
	for q := range int64(7) {
		for p := range int64(15) {
			list = append(list, big.NewRat(p-7, q+1))
		}
	}
	for _, a := range list {
		for _, b := range list {
			checkPair(t, a, b)
		}
	}
}

// P4.2, P4.3 and P4.5.
func TestPairsOfSomeFractions(t *testing.T) {
	list := someRats()
	source := rand.New(rand.NewSource(2))
	for range 500 {
		checkPair(t, list[source.Intn(len(list))], list[source.Intn(len(list))])
	}
}

// P4.2, P4.3 and P4.5.
func TestPairsOfRandomFractions(t *testing.T) {
	source := rand.New(rand.NewSource(3))
	for range 10000 {
		checkPair(t, randomRat(source, 100), randomRat(source, 100))
	}
	for range 100 {
		checkPair(t, randomRat(source, 9000), randomRat(source, 9000))
		checkPair(t, randomRat(source, 16384), randomRat(source, 1000))
	}
}

// P4.2: each of the four integers alone is out of range, though the sum of the fractions is not.
func TestLimitsOfAdd(t *testing.T) {
	one, greatest := big.NewInt(1), power2(16384, -1)
	x, y, common := power2(5000, 1), power2(5000, -1), power2(8000, 0)
	// r is chosen so that y + r*x is a multiple of common, by which the sum of 1/(common*x) and r/(common*y) is reduced.
	r := new(big.Int).ModInverse(x, common)
	r.Mod(r.Neg(r.Mul(r, y)), common)
	const none, left, right, total, below = -1, 0, 1, 2, 3
	for _, c := range []struct {
		a, b *big.Rat
		part int
	}{
		{whole(power2(16383, 0)), rat(new(big.Int).Neg(power2(16384, -2)), big.NewInt(3)), left},
		{rat(new(big.Int).Neg(power2(16384, -2)), big.NewInt(3)), whole(power2(16383, 0)), right},
		{whole(power2(16383, -1)), rat(one, big.NewInt(2)), none},
		{rat(one, big.NewInt(2)), whole(power2(16383, -1)), none},
		{rat(greatest, big.NewInt(2)), rat(greatest, big.NewInt(2)), total},
		{rat(power2(16383, 1), big.NewInt(2)), big.NewRat(-3, 4), left},
		{whole(power2(16384, -2)), whole(one), none},
		{rat(one, power2(8192, 1)), rat(one, power2(8192, 0)), below},
		{rat(one, power2(8192, 1)), rat(one, power2(8192, -1)), none},
		{rat(one, times(common, x)), rat(r, times(common, y)), below},
	} {
		for i, part := range sumParts(c.a, c.b) {
			if areWide(part) == (i == c.part) {
				t.Errorf("%s + %s: part %d is in range: %t", short(c.a), short(c.b), i, areWide(part))
			}
		}
		if sum := new(big.Rat).Add(c.a, c.b); c.part == total && !isInRange(sum) {
			t.Errorf("%s is out of range", short(sum))
		}
		minus := new(big.Rat).Neg(c.b)
		checkPair(t, c.a, c.b)
		checkPair(t, c.a, minus)
		checkPair(t, new(big.Rat).Neg(c.a), c.b)
		checkPair(t, new(big.Rat).Neg(c.a), minus)
	}
	for _, pair := range [][2]*big.Rat{{whole(greatest), whole(one)}, {whole(power2(16383, 0)), whole(power2(16383, 0))}} {
		checkPair(t, pair[0], pair[1])
		checkPair(t, new(big.Rat).Neg(pair[0]), pair[1])
		checkPair(t, new(big.Rat).Neg(pair[0]), new(big.Rat).Neg(pair[1]))
	}
}

// P4.3: the results are in range exactly if they are so in lowest terms.
func TestLimitsOfMulAndDiv(t *testing.T) {
	one, greatest, root := big.NewInt(1), power2(16384, -1), power2(8192, 0)
	for _, c := range []struct {
		a, b    *big.Rat
		product api.Errno
	}{
		{rat(greatest, power2(16384, -2)), rat(power2(16384, -2), greatest), api.OK},
		{rat(greatest, power2(16383, 0)), rat(power2(16383, 0), one), api.OK},
		{whole(power2(8192, -1)), whole(power2(8192, 1)), api.OK},
		{rat(one, power2(8192, -1)), rat(one, power2(8192, 1)), api.OK},
		{whole(root), whole(root), api.ErrLimit},
		{rat(one, root), rat(one, root), api.ErrLimit},
		{rat(power2(8192, -1), root), rat(power2(8192, 1), root), api.ErrLimit},
		{rat(root, power2(8192, -1)), rat(root, power2(8192, 1)), api.ErrLimit},
		{whole(power2(16383, 0)), whole(big.NewInt(2)), api.ErrLimit},
		{whole(power2(16383, 0)), rat(big.NewInt(2), power2(16383, -1)), api.ErrLimit},
		{whole(power2(16383, 0)), new(big.Rat), api.OK},
		{whole(greatest), rat(big.NewInt(7), greatest), api.OK},
		{rat(power2(16383, 0), big.NewInt(3)), rat(big.NewInt(6), power2(16383, 0)), api.OK},
	} {
		for _, pair := range [][2]*big.Rat{{c.a, c.b}, {c.b, c.a}} {
			if isInRange(new(big.Rat).Mul(pair[0], pair[1])) != (c.product == api.OK) {
				t.Error("the reference does not agree with the test")
			}
			checkPair(t, pair[0], pair[1])
			checkPair(t, new(big.Rat).Neg(pair[0]), pair[1])
			checkPair(t, new(big.Rat).Neg(pair[0]), new(big.Rat).Neg(pair[1]))
			if pair[1].Sign() != 0 {
				checkPair(t, pair[0], new(big.Rat).Inv(pair[1]))
				checkPair(t, pair[0], new(big.Rat).Neg(new(big.Rat).Inv(pair[1])))
			}
		}
	}
}

// P4.4.
func checkPow(t *testing.T, a *big.Rat, n int) {
	t.Helper()
	exponent := big.NewInt(int64(n))
	want := rat(new(big.Int).Exp(a.Num(), exponent, nil), new(big.Int).Exp(a.Denom(), exponent, nil))
	result, e := Pow(fracOf(a), n)
	if !isInRange(want) {
		if e != api.ErrLimit || !isZeroValue(result) {
			t.Fatalf("Pow(%s, %d) = %.200s, %d, want 0, ErrLimit", short(a), n, result.String(), e)
		}
		return
	}
	if e != api.OK || ratOf(t, result).Cmp(want) != 0 {
		t.Fatalf("Pow(%s, %d) = %.200s, %d, want %s, OK", short(a), n, result.String(), e, short(want))
	}
}

// P4.4.
func TestPow(t *testing.T) {
	for _, r := range []*big.Rat{big.NewRat(0, 1), big.NewRat(1, 1), big.NewRat(-1, 1), big.NewRat(2, 1), big.NewRat(-2, 3), big.NewRat(1, 5), big.NewRat(-10, 7),
		big.NewRat(math.MaxInt64, 3), big.NewRat(1, math.MaxInt64)} {
		for n := range 150 {
			checkPow(t, r, n)
		}
	}
	for _, r := range someRats() {
		for n := range 5 {
			checkPow(t, r, n)
		}
	}
	source := rand.New(rand.NewSource(4))
	for range 500 {
		checkPow(t, randomRat(source, 100), source.Intn(400))
	}
}

// P4.4: the greatest powers that are in range, and those beyond them.
func TestLimitsOfPow(t *testing.T) {
	for _, c := range []struct {
		p, q *big.Int
		most int
	}{
		{big.NewInt(2), big.NewInt(1), 16383},
		{big.NewInt(3), big.NewInt(1), 10337},
		{big.NewInt(3), big.NewInt(2), 10337},
		{big.NewInt(2), big.NewInt(3), 10337},
		{big.NewInt(1), big.NewInt(2), 16383},
		{big.NewInt(1), power2(5461, 0), 3},
		{power2(5461, 0), power2(100, -1), 3},
		{power2(8191, 1), big.NewInt(3), 2},
		{power2(8192, -1), power2(8192, -3), 2},
		{power2(8192, 0), big.NewInt(3), 1},
		{power2(16384, -1), big.NewInt(1), 1},
		{big.NewInt(1), power2(16384, -1), 1},
		{power2(3276, 1), power2(3276, 3), 5},
	} {
		r := rat(c.p, c.q)
		want := map[int]api.Errno{c.most: api.OK, c.most + 1: api.ErrLimit}
		for n, e := range want {
			checkPow(t, r, n)
			checkPow(t, new(big.Rat).Neg(r), n)
			if _, got := Pow(fracOf(r), n); got != e {
				t.Errorf("Pow of %s and %d returns the error %d, want %d", short(r), n, got, e)
			}
		}
	}
}

// P4.4, and P1 of DOC.md: numbers of factors that cannot be multiplied one by one.
func TestPowOfManyFactors(t *testing.T) {
	for _, n := range []int{math.MaxInt, math.MaxInt - 1, 1 << 62, 1<<62 - 1, 1<<40 + 1, 16384, 1 << 14, 1 << 32} {
		sign := 1 - n%2*2
		for _, c := range []struct{ p, want int }{{0, 0}, {1, 1}, {-1, sign}} {
			if result, e := Pow(of(t, c.p, 1), n); e != api.OK || Compare(result, of(t, c.want, 1)) != 0 {
				t.Errorf("Pow(%d, %d) = %v, %d, want %d, OK", c.p, n, result, e, c.want)
			}
		}
		for _, a := range []Frac{of(t, 2, 1), of(t, -2, 1), of(t, 1, 2), of(t, -1, 2), of(t, 2, 3), of(t, math.MaxInt, math.MinInt), fracOf(rat(big.NewInt(1), power2(16384, -1)))} {
			if result, e := Pow(a, n); e != api.ErrLimit || !isZeroValue(result) {
				t.Errorf("Pow of %.20s and %d = %v, %d, want 0, ErrLimit", a.String(), n, result, e)
			}
		}
	}
}

// P4.4.
func TestPowOfNegativeNumbersOfFactors(t *testing.T) {
	for _, n := range []int{-1, -2, -3, -16384, math.MinInt, math.MinInt + 1} {
		for _, a := range []Frac{{}, of(t, 1, 1), of(t, -1, 1), of(t, 2, 1), of(t, 2, 3), fracOf(whole(power2(16384, -1)))} {
			if result, e := Pow(a, n); e != api.ErrArg || !isZeroValue(result) {
				t.Errorf("Pow(%.20s, %d) = %v, %d, want 0, ErrArg", a.String(), n, result, e)
			}
		}
	}
}

// P4.5.
func TestSign(t *testing.T) {
	for _, r := range someRats() {
		a := fracOf(r)
		if Sign(a) != r.Sign() || Sign(a) != Compare(a, Frac{}) {
			t.Errorf("Sign of %s = %d, want %d", short(r), Sign(a), r.Sign())
		}
	}
}

// P4.5: fractions that differ little, so that only products that are out of range tell their order.
func TestCompareOfNeighbors(t *testing.T) {
	greatest := power2(16384, -1)
	list := []*big.Rat{}
	for more := range int64(3) {
		list = append(list, rat(power2(16384, -1-more), power2(16384, -2-more)), rat(power2(16384, -2-more), power2(16384, -1-more)),
			rat(power2(16383, more), greatest), rat(greatest, power2(16383, more)), rat(power2(16000, -1-more), power2(15000, more)), rat(big.NewInt(more+1), greatest))
	}
	p, q := big.NewInt(1), big.NewInt(1) // neighbors in the list of Fibonacci, whose fractions differ in their last parts only
	for q.BitLen() < 16384 {
		p, q = q, new(big.Int).Add(p, q)
		if q.BitLen() > 16382 {
			list = append(list, rat(p, q))
		}
	}
	for _, r := range slices.Clone(list) {
		list = append(list, new(big.Rat).Neg(r))
	}
	fractions := []Frac{}
	for _, r := range list {
		fractions = append(fractions, fracOf(r))
	}
	for i, a := range list {
		for j, b := range list {
			if got := Compare(fractions[i], fractions[j]); got != a.Cmp(b) {
				t.Errorf("Compare(%s, %s) = %d, want %d", short(a), short(b), got, a.Cmp(b))
			}
		}
	}
}

// P4.5: what Compare does if products are out of range, with numbers that lead to all its cases.
func TestCompareParts(t *testing.T) {
	for q := range int64(9) {
		for s := range int64(9) {
			for p := range int64(41) {
				for r := range int64(41) {
					want := big.NewRat(p-20, q+1).Cmp(big.NewRat(r-20, s+1))
					got := compareParts(wide.From(int(p-20)), wide.From(int(q+1)), wide.From(int(r-20)), wide.From(int(s+1)))
					if got != want {
						t.Fatalf("compareParts(%d, %d, %d, %d) = %d, want %d", p-20, q+1, r-20, s+1, got, want)
					}
				}
			}
		}
	}
}

// P4.6 and P4.10.
func TestTexts(t *testing.T) {
	list := someRats()
	source := rand.New(rand.NewSource(5))
	for range 2000 {
		list = append(list, randomRat(source, 200))
	}
	for _, r := range list {
		want := r.RatString()
		if got := fracOf(r).String(); got != want {
			t.Fatalf("String of %s = %.200s", short(r), got)
		}
		if a, e := Parse(want); e != api.OK || ratOf(t, a).Cmp(r) != 0 {
			t.Fatalf("Parse(%s) = %.200s, %d", short(r), a.String(), e)
		}
	}
}

// P4.6.
func TestWrongTexts(t *testing.T) {
	for _, s := range []string{"", "/", "//", "-", "-/", "1/", "/2", "-/2", "1//2", "1/2/3", "1/2/", "/1/2", "2/4", "-2/4", "3/1", "-3/1", "0/1", "0/2", "-0", "-0/2", "-0/1",
		"1/0", "0/0", "-1/0", "3/-4", "-3/-4", "1/-1", "03/4", "3/04", "00/4", "3/00", "+3/4", "3/+4", " 3/4", "3 /4", "3/ 4", "3/4 ", "3/4\n", "3/4\x00", "3\\4", "3:4",
		"3/4/", "3.5", "0.75", "1e3", "1/1e3", "3/4x", "x/4", "3/0x5", "1_0/3", "3\u20444", "\u00be", "\u0663/4", "3/\u0664", "1000000007/1000000007",
		"123456789012345678901234567890/12345678901234567890123456789", "18446744073709551616/4294967296", "1 1/2", "--3/4", "NaN", "inf"} {
		if isText(s) && !strings.HasPrefix(s, "123") {
			t.Errorf("the reference takes %q for a text", s)
		}
		want := api.ErrForm
		if isText(s) {
			want = api.OK
		}
		if a, e := Parse(s); e != want || e != api.OK && !isZeroValue(a) {
			t.Errorf("Parse(%q) = %v, %d, want the error %d", s, a, e, want)
		}
	}
}

func isText(s string) bool {
	r, ok := new(big.Rat).SetString(s)
	return ok && r.RatString() == s && isInRange(r)
}

// textsOf calls check with all texts of that many bytes of the letters.
func textsOf(size int, letters string, check func(s string)) {
	if size == 0 {
		check("")
		return
	}
	textsOf(size-1, letters, func(s string) {
		for _, letter := range []byte(letters) {
			check(s + string(letter))
		}
	})
}

// P4.6.
func TestAllShortTexts(t *testing.T) {
	check := func(s string) {
		a, e := Parse(s)
		switch {
		case !isText(s) && (e != api.ErrForm || !isZeroValue(a)):
			t.Fatalf("Parse(%q) = %v, %d, want 0, ErrForm", s, a, e)
		case isText(s) && (e != api.OK || a.String() != s):
			t.Fatalf("Parse(%q) = %v, %d, want %s, OK", s, a, e, s)
		}
	}
	for size := range 7 {
		textsOf(size, "-/01246", check)
	}
	for size := range 5 {
		textsOf(size, "+-/.:09 53", check)
	}
}

// P4.6: no text is too long for ErrForm.
func TestLimitsOfTexts(t *testing.T) {
	greatest, more := power2(16384, -1).String(), power2(16384, 0).String()
	for _, c := range []struct {
		s    string
		want api.Errno
	}{
		{greatest, api.OK},
		{"-" + greatest, api.OK},
		{"1/" + greatest, api.OK},
		{greatest + "/" + power2(16384, -2).String(), api.OK},
		{"-" + greatest + "/2", api.OK},
		{greatest + "/3", api.ErrForm},
		{greatest + "/" + greatest, api.ErrForm},
		{more, api.ErrForm},
		{"-" + more, api.ErrForm},
		{more + "/3", api.ErrForm},
		{"1/" + more, api.ErrForm},
		{"1/" + strings.Repeat("7", 5001), api.ErrForm},
		{strings.Repeat("7", 5001), api.ErrForm},
		{strings.Repeat("7", 5001) + "/2", api.ErrForm},
		{strings.Repeat("7", 1000000), api.ErrForm},
		{"3/" + strings.Repeat("0", 1000000), api.ErrForm},
		{strings.Repeat("1/", 1000000), api.ErrForm},
	} {
		a, e := Parse(c.s)
		if e != c.want || e == api.OK && a.String() != c.s || e != api.OK && !isZeroValue(a) {
			t.Errorf("Parse(%.10s.. of %d bytes) returns the error %d, want %d", c.s, len(c.s), e, c.want)
		}
	}
}

// must returns the result of an operation that has to be possible.
func must(t *testing.T, a Frac, e api.Errno) Frac {
	t.Helper()
	if e != api.OK {
		t.Fatalf("an operation returns the error %d", e)
	}
	return a
}

func checkEqual(t *testing.T, law string, a, b Frac) {
	t.Helper()
	if Compare(a, b) != 0 || a.String() != b.String() {
		t.Fatalf("%s: %v and %v differ", law, a, b)
	}
}

// P4.7.
func TestLawsOfArithmetic(t *testing.T) {
	op := func(f func(a, b Frac) (Frac, api.Errno), a, b Frac) Frac {
		t.Helper()
		result, e := f(a, b)
		return must(t, result, e)
	}
	source := rand.New(rand.NewSource(6))
	for range 2000 {
		a, b, c := fracOf(randomRat(source, 200)), fracOf(randomRat(source, 200)), fracOf(randomRat(source, 200))
		checkEqual(t, "a + b = b + a", op(Add, a, b), op(Add, b, a))
		checkEqual(t, "a * b = b * a", op(Mul, a, b), op(Mul, b, a))
		checkEqual(t, "(a + b) + c = a + (b + c)", op(Add, op(Add, a, b), c), op(Add, a, op(Add, b, c)))
		checkEqual(t, "(a * b) * c = a * (b * c)", op(Mul, op(Mul, a, b), c), op(Mul, a, op(Mul, b, c)))
		checkEqual(t, "a * (b + c) = a * b + a * c", op(Mul, a, op(Add, b, c)), op(Add, op(Mul, a, b), op(Mul, a, c)))
		checkEqual(t, "a + b - b = a", op(Sub, op(Add, a, b), b), a)
		checkEqual(t, "a - b + b = a", op(Add, op(Sub, a, b), b), a)
		checkEqual(t, "a - a = 0", op(Sub, a, a), Frac{})
		if Sign(b) != 0 {
			checkEqual(t, "a * b / b = a", op(Div, op(Mul, a, b), b), a)
			checkEqual(t, "a / b * b = a", op(Mul, op(Div, a, b), b), a)
		}
	}
}

// P4.8.
func TestLawsOfOrder(t *testing.T) {
	source := rand.New(rand.NewSource(7))
	for range 2000 {
		most := 4 + source.Intn(150)
		a, b, c := fracOf(randomRat(source, most)), fracOf(randomRat(source, most)), fracOf(randomRat(source, most))
		order := Compare(a, b)
		if Compare(b, a) != -order || Compare(a, a) != 0 {
			t.Fatalf("Compare of %v and %v = %d, and %d the other way round", a, b, order, Compare(b, a))
		}
		if order >= 0 && Compare(b, c) >= 0 && Compare(a, c) < 0 {
			t.Fatalf("%v >= %v >= %v, but the first one is less than the last one", a, b, c)
		}
		left, e1 := Add(a, c)
		right, e2 := Add(b, c)
		if e1 != api.OK || e2 != api.OK || Compare(left, right) != order {
			t.Fatalf("adding %v changes the order of %v and %v", c, a, b)
		}
		if Sign(c) > 0 {
			left, e1 = Mul(a, c)
			right, e2 = Mul(b, c)
			if e1 != api.OK || e2 != api.OK || Compare(left, right) != order {
				t.Fatalf("multiplying by %v changes the order of %v and %v", c, a, b)
			}
		}
		above, e1 := wide.Add(a.Num(), b.Num())
		below, e2 := wide.Add(a.Den(), b.Den())
		between, e := Make(above, below)
		if e1 != api.OK || e2 != api.OK || e != api.OK || Compare(a, between) != order || Compare(between, b) != order {
			t.Fatalf("%v does not lie between %v and %v", between, a, b)
		}
	}
}

// P4.9.
func TestLawOfPowers(t *testing.T) {
	source := rand.New(rand.NewSource(8))
	for range 300 {
		a := fracOf(randomRat(source, 60))
		m, n := source.Intn(100), source.Intn(100)
		left, e1 := Pow(a, m)
		right, e2 := Pow(a, n)
		want, e3 := Pow(a, m+n)
		multiple, e4 := Mul(left, right)
		if e1 != api.OK || e2 != api.OK || e3 != api.OK || e4 != api.OK {
			t.Fatalf("Pow of %v and %d + %d returns an error", a, m, n)
		}
		checkEqual(t, "a^m * a^n = a^(m + n)", multiple, want)
	}
}

// P4.10.
func TestEqualFractions(t *testing.T) {
	list := []Frac{{}}
	for p := range 21 {
		for q := range 12 {
			list = append(list, of(t, p-10, q+1), of(t, 3*(p-10), -3*(q+1)))
		}
	}
	for i, r := range someRats() {
		if i%5 == 0 {
			list = append(list, fracOf(r))
		}
	}
	texts := []string{}
	for _, a := range list {
		texts = append(texts, a.String())
	}
	for i, a := range list {
		for j, b := range list {
			areSame := Compare(a, b) == 0
			haveSameParts := wide.Compare(a.Num(), b.Num()) == 0 && wide.Compare(a.Den(), b.Den()) == 0
			if areSame != (texts[i] == texts[j]) || areSame != haveSameParts {
				t.Fatalf("Compare of %.20s and %.20s = %d, with the same parts: %t", texts[i], texts[j], Compare(a, b), haveSameParts)
			}
		}
	}
}

// memoryOf returns where the words of an integer are, and 0 if there are none.
func memoryOf(x wide.Int) uintptr {
	return reflect.ValueOf(x).FieldByName("words").Pointer()
}

// R3 of DOC.md.
func TestResultsShareNoMemory(t *testing.T) {
	operations := map[string]func(a, b Frac) []wide.Int{
		"Num and Den": func(a, b Frac) []wide.Int { return []wide.Int{a.Num(), b.Den(), a.Den(), b.Num()} },
		"Make": func(a, b Frac) []wide.Int {
			c, _ := Make(a.num, b.num)
			d, _ := Make(b.num, wide.From(1))
			return []wide.Int{c.num, c.den, d.num, d.den}
		},
		"Pow": func(a, b Frac) []wide.Int {
			c, _ := Pow(a, 1)
			d, _ := Pow(b, 1)
			return []wide.Int{c.num, c.den, d.num, d.den}
		},
	}
	for name, f := range map[string]func(a, b Frac) (Frac, api.Errno){"Add": Add, "Sub": Sub, "Mul": Mul, "Div": Div} {
		operations[name] = func(a, b Frac) []wide.Int {
			c, _ := f(a, b)
			return []wide.Int{c.num, c.den}
		}
	}
	numbers := []Frac{{}, of(t, 1, 1), of(t, -1, 1), of(t, 2, 1), of(t, 2, 3), of(t, -5, 7), of(t, 1, 9)}
	for name, f := range operations {
		for _, a := range numbers {
			for _, b := range numbers {
				texts := a.String() + " " + b.String()
				seen := []uintptr{memoryOf(a.num), memoryOf(a.den), memoryOf(b.num), memoryOf(b.den)}
				for _, x := range f(a, b) {
					if at := memoryOf(x); at != 0 && slices.Contains(seen, at) {
						t.Errorf("a result of %s shares memory with %v or %v", name, a, b)
					} else {
						seen = append(seen, at)
					}
				}
				Compare(a, b)
				if texts != a.String()+" "+b.String() {
					t.Errorf("%s changes %s to %v %v", name, texts, a, b)
				}
			}
		}
	}
}
