package wide

import (
	"math"
	"math/big"
	"math/rand"
	"slices"
	"strings"
	"testing"

	"skymosaic/api"
)

// ofBig is the Int of b, made without the functions of the package.
func ofBig(b *big.Int) Int {
	x := Int{negative: b.Sign() < 0}
	for left := new(big.Int).Abs(b); left.Sign() > 0; left.Rsh(left, 32) {
		x.words = append(x.words, uint32(new(big.Int).And(left, big.NewInt(math.MaxUint32)).Uint64()))
	}
	return x
}

// bigOf is the integer that x stands for; x has to have the only form of it.
func bigOf(t *testing.T, x Int) *big.Int {
	t.Helper()
	b := new(big.Int)
	for _, word := range slices.Backward(x.words) {
		b.Add(b.Lsh(b, 32), big.NewInt(int64(word)))
	}
	if b.Sign() == 0 && (x.negative || x.words != nil) || len(x.words) > 0 && x.words[len(x.words)-1] == 0 {
		t.Fatalf("%v, negative: %t, is not the form of an integer", x.words, x.negative)
	}
	if x.negative {
		b.Neg(b)
	}
	return b
}

func bigText(s string) *big.Int {
	b, ok := new(big.Int).SetString(s, 10)
	if !ok {
		panic(s)
	}
	return b
}

// power is 2^n + more.
func power(n uint, more int64) *big.Int {
	b := new(big.Int).Lsh(big.NewInt(1), n)
	return b.Add(b, big.NewInt(more))
}

func isInRange(b *big.Int) bool {
	return b.BitLen() <= 16384
}

// someBigs has integers of both signs, with those where the number of words or of decimal digits changes, and the
// least and the greatest one.
func someBigs() []*big.Int {
	list := []*big.Int{big.NewInt(0)}
	add := func(b *big.Int) {
		list = append(list, b, new(big.Int).Neg(b))
	}
	for n := range int64(8) {
		add(big.NewInt(n + 1))
	}
	for _, n := range []uint{16, 31, 32, 33, 62, 63, 64, 65, 95, 96, 97, 128, 160, 1000, 8191, 8192} {
		add(power(n, -1))
		add(power(n, 0))
		add(power(n, 1))
	}
	for _, n := range []int64{8, 9, 10, 18, 27, 100, 4931} {
		ten := new(big.Int).Exp(big.NewInt(10), big.NewInt(n), nil)
		add(ten)
		add(new(big.Int).Sub(ten, big.NewInt(1)))
	}
	add(power(16383, 0))
	add(new(big.Int).Sub(power(16384, -1), power(8192, 0)))
	add(power(16384, -2))
	add(power(16384, -1))
	return list
}

// randomBig has at most most bits, often few, and sometimes long runs of equal ones.
func randomBig(source *rand.Rand, most int) *big.Int {
	b := new(big.Int).Rand(source, power(uint(source.Intn(most)+1), 0))
	for range source.Intn(3) {
		run := new(big.Int).Lsh(power(uint(source.Intn(most)), -1), uint(source.Intn(most)))
		b.Xor(b, run)
	}
	b.And(b, power(uint(most), -1))
	if source.Intn(2) == 0 {
		b.Neg(b)
	}
	return b
}

// checkResult checks the result and the error of an operation that may be out of range.
func checkResult(t *testing.T, name string, x, y *big.Int, got Int, e api.Errno, want *big.Int) {
	t.Helper()
	if !isInRange(want) {
		if e != api.ErrLimit || bigOf(t, got).Sign() != 0 {
			t.Fatalf("%s(%v, %v) = %v, %d, want 0, ErrLimit", name, x, y, got, e)
		}
		return
	}
	if e != api.OK || bigOf(t, got).Cmp(want) != 0 {
		t.Fatalf("%s(%v, %v) = %v, %d, want %v, OK", name, x, y, bigOf(t, got), e, want)
	}
}

// checkPair checks what all functions of two integers return (P3.3 to P3.6) against package big.
func checkPair(t *testing.T, a, b *big.Int) {
	t.Helper()
	x, y := ofBig(a), ofBig(b)
	total, e := Add(x, y)
	checkResult(t, "Add", a, b, total, e, new(big.Int).Add(a, b))
	left, e := Sub(x, y)
	checkResult(t, "Sub", a, b, left, e, new(big.Int).Sub(a, b))
	multiple, e := Mul(x, y)
	checkResult(t, "Mul", a, b, multiple, e, new(big.Int).Mul(a, b))
	q, r, e := Div(x, y)
	if b.Sign() == 0 {
		if e != api.ErrArg || bigOf(t, q).Sign() != 0 || bigOf(t, r).Sign() != 0 {
			t.Fatalf("Div(%v, 0) = %v, %v, %d, want 0, 0, ErrArg", a, q, r, e)
		}
	} else {
		quotient, rest := new(big.Int).DivMod(a, b, new(big.Int))
		checkResult(t, "Div", a, b, q, e, quotient)
		checkResult(t, "rest of Div", a, b, r, e, rest)
	}
	checkResult(t, "Gcd", a, b, Gcd(x, y), api.OK, new(big.Int).GCD(nil, nil, new(big.Int).Abs(a), new(big.Int).Abs(b)))
	if got := Compare(x, y); got != a.Cmp(b) {
		t.Fatalf("Compare(%v, %v) = %d, want %d", a, b, got, a.Cmp(b))
	}
}

// parsed is the integer with a text that has to be right.
func parsed(t *testing.T, s string) Int {
	t.Helper()
	x, e := Parse(s)
	if e != api.OK {
		t.Fatalf("Parse(%q) returns the error %d", s, e)
	}
	return x
}

func TestExamplesOfTheChapter(t *testing.T) {
	for _, c := range []struct{ x, y, q, r int }{{-7, 2, -4, 1}, {7, -2, -3, 1}} {
		q, r, e := Div(From(c.x), From(c.y))
		if Compare(q, From(c.q)) != 0 || Compare(r, From(c.r)) != 0 || e != api.OK {
			t.Errorf("Div(%d, %d) = %v, %v, %d, want %d, %d, OK", c.x, c.y, q, r, e, c.q, c.r)
		}
	}
	square, e := Mul(From(4294967296), From(4294967296))
	if square.String() != "18446744073709551616" || e != api.OK {
		t.Errorf("the square of 2^32 is %v, %d", square, e)
	}
	if n, ok := square.Small(); n != 0 || ok {
		t.Errorf("Small of 2^64 = %d, %t, want 0, false", n, ok)
	}
	for _, s := range []string{"-0", "01"} {
		if x, e := Parse(s); e != api.ErrForm || Sign(x) != 0 {
			t.Errorf("Parse(%q) = %v, %d, want 0, ErrForm", s, x, e)
		}
	}
}

// P3.1.
func TestFromAndSmall(t *testing.T) {
	list := []int{0, 1, -1, 2, -2, math.MaxInt32, math.MinInt32, math.MaxUint32, -math.MaxUint32, 1 << 32, -1 << 32, 1<<32 + 1,
		math.MaxInt - 1, math.MaxInt, math.MinInt, math.MinInt + 1}
	for n := range 64 {
		list = append(list, 1<<n, -1<<n, 1<<n-1, 1-1<<n, 3<<n, -3<<n)
	}
	for _, n := range list {
		x := From(n)
		if bigOf(t, x).Cmp(big.NewInt(int64(n))) != 0 {
			t.Errorf("From(%d) = %v", n, bigOf(t, x))
		}
		if got, ok := x.Small(); got != n || !ok {
			t.Errorf("Small of %d = %d, %t", n, got, ok)
		}
	}
}

// P3.1.
func TestSmallOfGreatIntegers(t *testing.T) {
	minus := new(big.Int).Neg
	for _, b := range append(someBigs(), power(63, 0), minus(power(63, 1)), minus(power(64, -1)), power(64, -1), power(64, 5), minus(power(64, 5)),
		minus(power(64, 0)), power(96, 7), minus(power(96, 7)), minus(power(63, 12345)), minus(new(big.Int).Sub(power(64, 0), power(32, 0)))) {
		n, ok := ofBig(b).Small()
		if ok != b.IsInt64() || ok && int64(n) != b.Int64() || !ok && n != 0 {
			t.Errorf("Small of %v = %d, %t", b, n, ok)
		}
	}
}

// The words of the chapter: the zero value of Int stands for 0.
func TestZeroValue(t *testing.T) {
	zero := Int{}
	if n, ok := zero.Small(); n != 0 || !ok || zero.String() != "0" || Sign(zero) != 0 || Compare(zero, From(0)) != 0 {
		t.Errorf("the zero value is %v, with Small %d, %t", zero, n, ok)
	}
	for _, n := range []int{0, 5, -5} {
		if total, e := Add(zero, From(n)); Compare(total, From(n)) != 0 || e != api.OK {
			t.Errorf("0 + %d = %v, %d", n, total, e)
		}
		if product, e := Mul(From(n), zero); Sign(product) != 0 || e != api.OK {
			t.Errorf("%d * 0 = %v, %d", n, product, e)
		}
	}
	if _, _, e := Div(From(1), zero); e != api.ErrArg {
		t.Errorf("Div(1, 0) returns the error %d, want ErrArg", e)
	}
}

// P3.2 and P3.9.
func TestTexts(t *testing.T) {
	source := rand.New(rand.NewSource(1))
	list := someBigs()
	for range 2000 {
		list = append(list, randomBig(source, 400))
	}
	for _, b := range list {
		want := b.String()
		if got := ofBig(b).String(); got != want {
			t.Errorf("String of %s = %s", want, got)
		}
		x := parsed(t, want)
		if bigOf(t, x).Cmp(b) != 0 || x.String() != want {
			t.Errorf("Parse(%s) = %v", want, bigOf(t, x))
		}
	}
}

// P3.2 and P3.9: texts with zeros where groups of digits begin or end.
func TestTextsOfZeros(t *testing.T) {
	for size := range 40 {
		for at := range size {
			text := []byte("1" + strings.Repeat("0", size))
			text[at+1] = '7'
			for _, s := range []string{string(text), "-" + string(text)} {
				if x := parsed(t, s); x.String() != s || bigOf(t, x).Cmp(bigText(s)) != 0 {
					t.Errorf("Parse(%s) = %v", s, x)
				}
			}
		}
	}
}

func isText(s string) bool {
	b, ok := new(big.Int).SetString(s, 10)
	return ok && b.String() == s
}

// P3.2.
func TestWrongTexts(t *testing.T) {
	list := []string{"", "-", "--1", "-00", "00", "-01", "007", "+1", "+0", "1-", " 1", "1 ", "1 2", "1_000", "_1", "0x1f", "0b1", "0o7", "1e3", "1.0", "1,5",
		"1\x00", "\x001", "1\n", "\u0661", "1\u0662", "\uff11", "\xff", "a", "1/2", "12345678a", "123456789a", "-123456789a", "1234567890123456789/",
		"123456789:123456789", strings.Repeat("0", 5000), "0" + strings.Repeat("9", 4999), strings.Repeat("9", 4999) + "x", "-" + strings.Repeat("0", 4999)}
	for _, s := range list {
		if x, e := Parse(s); e != api.ErrForm || bigOf(t, x).Sign() != 0 {
			t.Errorf("Parse(%.20q) = %v, %d, want 0, ErrForm", s, x, e)
		}
	}
}

// P3.2.
func TestAllShortTexts(t *testing.T) {
	check := func(s string) {
		want := api.ErrForm
		if isText(s) {
			want = api.OK
		}
		x, e := Parse(s)
		if e != want || e == api.OK && x.String() != s {
			t.Fatalf("Parse(%q) = %v, %d, want the error %d", s, x, e, want)
		}
	}
	for first := range 256 {
		check(string([]byte{byte(first)}))
		for second := range 256 {
			check(string([]byte{byte(first), byte(second)}))
			for _, third := range []byte("-+019/:") {
				check(string([]byte{byte(first), byte(second), third}))
			}
		}
	}
}

// P3.2.
func TestLimitsOfTexts(t *testing.T) {
	greatest, more := power(16384, -1).String(), power(16384, 0).String()
	for _, c := range []struct {
		s    string
		want api.Errno
	}{
		{greatest, api.OK},
		{"-" + greatest, api.OK},
		{more, api.ErrLimit},
		{"-" + more, api.ErrLimit},
		{strings.Repeat("9", 4933), api.ErrLimit},
		{strings.Repeat("9", 4932), api.OK},
		{strings.Repeat("9", 5000), api.ErrLimit},
		{"-" + strings.Repeat("9", 4999), api.ErrLimit},
		{strings.Repeat("9", 5001), api.ErrLimit},
		{strings.Repeat("0", 5001), api.ErrLimit}, // the length comes first
		{strings.Repeat("x", 5001), api.ErrLimit},
		{strings.Repeat("x", 100000), api.ErrLimit},
		{strings.Repeat("x", 5000), api.ErrForm}, // the form comes before the value
		{strings.Repeat("9", 4999) + "-", api.ErrForm},
	} {
		x, e := Parse(c.s)
		if e != c.want || e == api.OK && x.String() != c.s || e != api.OK && bigOf(t, x).Sign() != 0 {
			t.Errorf("Parse(%.10s.. of %d bytes) returns the error %d, want %d", c.s, len(c.s), e, c.want)
		}
	}
}

// P3.3 to P3.6.
func TestPairsOfSomeIntegers(t *testing.T) {
	list := someBigs()
	for _, a := range list {
		for _, b := range list {
			checkPair(t, a, b)
		}
	}
}

// P3.3 to P3.6.
func TestPairsOfSmallIntegers(t *testing.T) {
	for a := range int64(61) {
		for b := range int64(61) {
			checkPair(t, big.NewInt(a-30), big.NewInt(b-30))
		}
	}
}

// P3.3 to P3.6.
func TestPairsOfRandomIntegers(t *testing.T) {
	source := rand.New(rand.NewSource(2))
	for range 20000 {
		checkPair(t, randomBig(source, 300), randomBig(source, 300))
	}
	for range 300 {
		checkPair(t, randomBig(source, 16384), randomBig(source, 16384))
		checkPair(t, randomBig(source, 16384), randomBig(source, 3000))
	}
}

// P3.3: the ends of the range.
func TestLimitsOfArithmetic(t *testing.T) {
	minus := new(big.Int).Neg
	greatest, half, root := power(16384, -1), power(16383, 0), power(8192, 0)
	for _, c := range [][2]*big.Int{
		{greatest, big.NewInt(1)}, {greatest, big.NewInt(0)}, {greatest, greatest}, {half, half}, {half, power(16383, -1)},
		{root, root}, {power(8192, -1), power(8192, 1)}, {root, power(8191, 0)}, {root, power(8192, -1)}, {half, big.NewInt(2)}, {power(16383, -1), big.NewInt(2)},
	} {
		checkPair(t, c[0], c[1])
		checkPair(t, c[0], new(big.Int).Neg(c[1]))
		checkPair(t, minus(c[0]), c[1])
		checkPair(t, c[1], c[0])
	}
	product, e := Mul(ofBig(power(8192, -1)), ofBig(power(8192, 1)))
	if e != api.OK || product.String() != greatest.String() {
		t.Errorf("(2^8192 - 1) * (2^8192 + 1) returns the error %d", e)
	}
}

// wordLists calls check with all integers of that many words of the list.
func wordLists(size int, words []uint32, check func(b *big.Int)) {
	if size == 0 {
		check(new(big.Int))
		return
	}
	wordLists(size-1, words, func(b *big.Int) {
		for _, word := range words {
			more := new(big.Int).Lsh(b, 32)
			check(more.Add(more, big.NewInt(int64(word))))
		}
	})
}

// P3.4: words for which estimates of digits are too great.
func TestDivOfExtremeWords(t *testing.T) {
	words := []uint32{0, 1, 1<<31 - 1, 1 << 31, math.MaxUint32 - 1, math.MaxUint32}
	check := func(a, b *big.Int) {
		if b.Sign() == 0 {
			return
		}
		q, r, e := Div(ofBig(a), ofBig(b))
		quotient, rest := new(big.Int).DivMod(a, b, new(big.Int))
		if e != api.OK || bigOf(t, q).Cmp(quotient) != 0 || bigOf(t, r).Cmp(rest) != 0 {
			t.Fatalf("Div(%x, %x) = %v, %v, %d, want %v, %v", a, b, q, r, e, quotient, rest)
		}
	}
	wordLists(4, words, func(a *big.Int) {
		wordLists(2, words, func(b *big.Int) { check(a, b) })
	})
	wordLists(5, words[2:], func(a *big.Int) {
		wordLists(3, words[1:], func(b *big.Int) { check(a, b) })
	})
}

// P3.4: products and their neighbors, so that rests are 0 or as great as they can be.
func TestDivOfProducts(t *testing.T) {
	source := rand.New(rand.NewSource(3))
	one := big.NewInt(1)
	for range 3000 {
		a, b := randomBig(source, 500), randomBig(source, 500)
		multiple := new(big.Int).Mul(a, b)
		checkPair(t, multiple, b)
		checkPair(t, new(big.Int).Sub(multiple, one), b)
		checkPair(t, new(big.Int).Add(multiple, one), b)
		checkPair(t, new(big.Int).Sub(multiple, new(big.Int).Abs(b)), b)
	}
}

// P3.5 and P3.8.
func TestGcdOfMultiples(t *testing.T) {
	source := rand.New(rand.NewSource(4))
	for range 5000 {
		a, b, factor := randomBig(source, 400), randomBig(source, 400), randomBig(source, 400)
		checkPair(t, new(big.Int).Mul(a, factor), new(big.Int).Mul(b, factor))
		checkPair(t, new(big.Int).Mul(a, factor), factor)
	}
}

// P3.5: the quotients of all steps of Euclid's algorithm are the factor, but for the last one.
func TestGcdOfNeighbors(t *testing.T) {
	for _, factor := range []*big.Int{big.NewInt(1), big.NewInt(2), power(31, -1), power(32, 0), power(40, 3), power(62, -1), power(100, 0)} {
		last, next := big.NewInt(0), big.NewInt(1)
		for next.BitLen() < 3000 {
			checkPair(t, last, next)
			checkPair(t, new(big.Int).Mul(next, power(70, 1)), new(big.Int).Mul(last, power(70, 1)))
			last, next = next, new(big.Int).Add(last, new(big.Int).Mul(factor, next))
		}
	}
	greatest := power(16384, -1)
	for _, b := range []*big.Int{power(16383, 1), power(16384, -2), power(8192, 1), power(8192, -1), power(4096, 1), new(big.Int).Quo(greatest, big.NewInt(3))} {
		checkPair(t, greatest, b)
	}
}

// P3.5: integers that are almost equal, or differ much in size.
func TestGcdOfLeadingWords(t *testing.T) {
	source := rand.New(rand.NewSource(5))
	words := []uint32{0, 1, 1 << 31, math.MaxUint32}
	wordLists(4, words, func(a *big.Int) {
		wordLists(4, words, func(b *big.Int) { checkPair(t, a, b) })
	})
	for range 3000 {
		a, small := randomBig(source, 600), randomBig(source, 150)
		checkPair(t, a, new(big.Int).Add(a, small))
		checkPair(t, a, new(big.Int).Add(new(big.Int).Lsh(a, 1), small))
		checkPair(t, a, small)
	}
}

// P3.5: what the products of cofactors and words need in order to fit in 64 bits.
func TestSizesOfCofactors(t *testing.T) {
	check := func(x, y int) {
		r := turnOf(x, y)
		for _, n := range []int{r.a, r.b, r.c, r.d} {
			if n = max(n, -n); n > 1 && n > x/n {
				t.Fatalf("from %d and %d, the square of a cofactor of %v is greater than the first", x, y, r)
			}
		}
		if min(r.a, r.b) > 0 || max(r.a, r.b) < 0 || min(r.c, r.d) > 0 || max(r.c, r.d) < 0 {
			t.Fatalf("from %d and %d, %v has two cofactors of the same sign", x, y, r)
		}
	}
	for x := range 600 {
		for y := range x + 1 {
			check(x, y)
		}
	}
	source := rand.New(rand.NewSource(9))
	for range 100000 {
		x, y := source.Intn(1<<62), source.Intn(1<<62)
		check(max(x, y), min(x, y))
		check(max(x, y), min(x, y)>>source.Intn(62))
	}
}

// P3.6.
func TestSignAndNeg(t *testing.T) {
	for _, b := range someBigs() {
		x := ofBig(b)
		if Sign(x) != b.Sign() || Sign(x) != Compare(x, From(0)) {
			t.Errorf("Sign(%v) = %d", b, Sign(x))
		}
		if bigOf(t, Neg(x)).Cmp(new(big.Int).Neg(b)) != 0 {
			t.Errorf("Neg(%v) = %v", b, Neg(x))
		}
		if Compare(Neg(Neg(x)), x) != 0 {
			t.Errorf("Neg of Neg(%v) = %v", b, Neg(Neg(x)))
		}
	}
}

// must is the result of an operation that is in range.
func must(x Int, e api.Errno) Int {
	if e != api.OK {
		panic(e)
	}
	return x
}

// P3.7.
func TestRing(t *testing.T) {
	source := rand.New(rand.NewSource(6))
	for range 3000 {
		x, y, z := ofBig(randomBig(source, 400)), ofBig(randomBig(source, 400)), ofBig(randomBig(source, 400))
		for _, c := range []struct {
			name        string
			left, right Int
		}{
			{"x + y = y + x", must(Add(x, y)), must(Add(y, x))},
			{"x * y = y * x", must(Mul(x, y)), must(Mul(y, x))},
			{"(x + y) + z = x + (y + z)", must(Add(must(Add(x, y)), z)), must(Add(x, must(Add(y, z))))},
			{"(x * y) * z = x * (y * z)", must(Mul(must(Mul(x, y)), z)), must(Mul(x, must(Mul(y, z))))},
			{"x * (y + z) = x * y + x * z", must(Mul(x, must(Add(y, z)))), must(Add(must(Mul(x, y)), must(Mul(x, z))))},
			{"x + y - y = x", must(Sub(must(Add(x, y)), y)), x},
			{"x - y = -(y - x)", must(Sub(x, y)), Neg(must(Sub(y, x)))},
			{"x - x = 0", must(Sub(x, x)), From(0)},
		} {
			if Compare(c.left, c.right) != 0 {
				t.Fatalf("%s: %v and %v for %v, %v, %v", c.name, c.left, c.right, x, y, z)
			}
		}
		if (Sign(must(Sub(x, y))) == 0) != (Compare(x, y) == 0) || Sign(must(Sub(x, y))) != Compare(x, y) {
			t.Fatalf("Compare(%v, %v) = %d, but their difference is %v", x, y, Compare(x, y), must(Sub(x, y)))
		}
	}
}

// P3.8.
func TestDivisors(t *testing.T) {
	source := rand.New(rand.NewSource(7))
	divided := func(x, y Int) Int {
		q, r, e := Div(x, y)
		if e != api.OK || Sign(r) != 0 {
			t.Fatalf("%v does not divide %v", y, x)
		}
		return q
	}
	for range 3000 {
		factor := ofBig(randomBig(source, 200))
		x, y := must(Mul(ofBig(randomBig(source, 300)), factor)), must(Mul(ofBig(randomBig(source, 300)), factor))
		g := Gcd(x, y)
		if Sign(g) < 0 || (Sign(g) == 0) != (Sign(x) == 0 && Sign(y) == 0) {
			t.Fatalf("Gcd(%v, %v) = %v", x, y, g)
		}
		if Sign(g) == 0 {
			continue
		}
		if one := Gcd(divided(x, g), divided(y, g)); Compare(one, From(1)) != 0 {
			t.Fatalf("divided by %v, %v and %v have the divisor %v", g, x, y, one)
		}
		if _, r, e := Div(x, y); e == api.OK && Compare(Gcd(y, r), g) != 0 {
			t.Fatalf("Gcd(%v, %v) = %v, want %v", y, r, Gcd(y, r), g)
		}
	}
}

// P3.9.
func TestDigitsOfProducts(t *testing.T) {
	digits := func(x Int) int {
		return len(strings.TrimPrefix(x.String(), "-"))
	}
	source := rand.New(rand.NewSource(8))
	for range 3000 {
		x, y := ofBig(randomBig(source, 400)), ofBig(randomBig(source, 400))
		if Sign(x) == 0 || Sign(y) == 0 {
			continue
		}
		size := digits(must(Mul(x, y)))
		if most := digits(x) + digits(y); size != most && size != most-1 {
			t.Errorf("%v times %v has %d digits", x, y, size)
		}
	}
}

// The words of the chapter, with rule R3: arguments stay, and results are new memory.
func TestArgumentsStay(t *testing.T) {
	list := []*big.Int{big.NewInt(0), big.NewInt(1), big.NewInt(-7), power(40, 9), new(big.Int).Neg(power(40, 9)), power(96, -5), power(500, 77), new(big.Int).Neg(power(300, 1))}
	for _, a := range list {
		for _, b := range list {
			x, y := ofBig(a), ofBig(b)
			total, _ := Add(x, y)
			left, _ := Sub(x, y)
			multiple, _ := Mul(x, y)
			q, r, _ := Div(x, y)
			results := []Int{total, left, multiple, q, r, Gcd(x, y), Neg(x), Neg(y)}
			for i, result := range results {
				for j := range result.words[:cap(result.words)] {
					result.words[:cap(result.words)][j] = 1<<31 + uint32(i)
				}
			}
			for i, result := range results {
				for _, word := range result.words {
					if word != 1<<31+uint32(i) {
						t.Fatalf("result %d for %v and %v shares memory with another one", i, a, b)
					}
				}
			}
			if bigOf(t, x).Cmp(a) != 0 || bigOf(t, y).Cmp(b) != 0 {
				t.Fatalf("%v and %v became %v and %v", a, b, x, y)
			}
		}
	}
}
