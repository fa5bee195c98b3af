package ival

import (
	"math/big"
	"math/rand"
	"reflect"
	"slices"
	"testing"

	"skymosaic/api"
	"skymosaic/frac"
	"skymosaic/wide"
)

// box is an interval of the tests: its ends in parts of 2^-32.
type box struct{ lo, hi *big.Int }

// String returns the text of b as P7.2 defines it.
func (b box) String() string {
	return "[" + exact(b.lo).RatString() + ", " + exact(b.hi).RatString() + "]"
}

// short is what a message says of b.
func (b box) short() string {
	if text := b.String(); len(text) <= 200 {
		return text
	}
	return "[" + shortRat(exact(b.lo)) + ", " + shortRat(exact(b.hi)) + "]"
}

func shortRat(r *big.Rat) string {
	if text := r.RatString(); len(text) <= 100 {
		return text
	}
	f, _ := new(big.Float).SetRat(r).MarshalText()
	return "about " + string(f)
}

// power is 2^n + more.
func power(n uint, more int64) *big.Int {
	b := new(big.Int).Lsh(big.NewInt(1), n)
	return b.Add(b, big.NewInt(more))
}

// exact is the fraction that has so many parts.
func exact(parts *big.Int) *big.Rat {
	return new(big.Rat).SetFrac(parts, power(32, 0))
}

// outward is the box from the least to the greatest fraction, rounded outward.
func outward(list ...*big.Rat) box {
	lo := slices.MinFunc(list, (*big.Rat).Cmp)
	hi := slices.MaxFunc(list, (*big.Rat).Cmp)
	return box{floor(lo), new(big.Int).Neg(floor(new(big.Rat).Neg(hi)))}
}

// floor is the greatest number of parts that is not greater than r.
func floor(r *big.Rat) *big.Int {
	above := new(big.Int).Lsh(r.Num(), 32)
	return above.Div(above, r.Denom())
}

func isEnd(b *big.Int) bool {
	return new(big.Int).Abs(b).Cmp(power(8192, 0)) < 0
}

// partsBox is the box with so many parts of 2^-32.
func partsBox(lo, hi int64) box {
	return box{big.NewInt(lo), big.NewInt(hi)}
}

// wholeBox is the box between two integers.
func wholeBox(lo, hi int64) box {
	return outward(big.NewRat(lo, 1), big.NewRat(hi, 1))
}

func wideOf(b *big.Int) wide.Int {
	x, e := wide.Parse(b.String())
	if e != api.OK {
		panic(b.String())
	}
	return x
}

func fracOf(r *big.Rat) frac.Frac {
	x, e := frac.Make(wideOf(r.Num()), wideOf(r.Denom()))
	if e != api.OK {
		panic(r.String())
	}
	return x
}

func ratOf(x frac.Frac) *big.Rat {
	r, ok := new(big.Rat).SetString(x.String())
	if !ok {
		panic(x.String())
	}
	return r
}

// ivalOf is the Ival of b, made without the functions of the package.
func ivalOf(b box) Ival {
	return Ival{wideOf(b.lo), wideOf(b.hi)}
}

func isZeroValue(x Ival) bool {
	return reflect.DeepEqual(x, Ival{})
}

// isIval tells whether x is the only form of b.
func isIval(x Ival, b box) bool {
	return reflect.DeepEqual(x, ivalOf(b))
}

// checkResult checks a result and its error; the first error is wanted if there is one, otherwise ErrLimit if an end of
// the box is out of range.
func checkResult(t *testing.T, what string, got Ival, e api.Errno, want box, first api.Errno) {
	t.Helper()
	if first == api.OK && !(isEnd(want.lo) && isEnd(want.hi)) {
		first = api.ErrLimit
	}
	if first != api.OK {
		if e != first || !isZeroValue(got) {
			t.Fatalf("%s = %.300s, %d, want [0, 0] and the error %d", what, got.String(), e, first)
		}
		return
	}
	if e != api.OK || !isIval(got, want) {
		t.Fatalf("%s = %.300s, %d, want %s, OK", what, got.String(), e, want.short())
	}
}

// combined is the list of what f says of the ends of x and y.
func combined(x, y box, f func(result, a, b *big.Rat) *big.Rat) []*big.Rat {
	list := []*big.Rat{}
	for _, a := range []*big.Int{x.lo, x.hi} {
		for _, b := range []*big.Int{y.lo, y.hi} {
			list = append(list, f(new(big.Rat), exact(a), exact(b)))
		}
	}
	return list
}

// checkPair checks what all functions of two intervals return (P7.3 and P7.5) against package big.
func checkPair(t *testing.T, x, y box) {
	t.Helper()
	a, b := ivalOf(x), ivalOf(y)
	of := "(" + x.short() + ", " + y.short() + ")"
	got, e := Add(a, b)
	checkResult(t, "Add"+of, got, e, outward(combined(x, y, (*big.Rat).Add)...), api.OK)
	got, e = Sub(a, b)
	checkResult(t, "Sub"+of, got, e, outward(combined(x, y, (*big.Rat).Sub)...), api.OK)
	got, e = Mul(a, b)
	checkResult(t, "Mul"+of, got, e, outward(combined(x, y, (*big.Rat).Mul)...), api.OK)
	got, e = Div(a, b)
	if y.lo.Sign() <= 0 && y.hi.Sign() >= 0 {
		checkResult(t, "Div"+of, got, e, box{}, api.ErrZero)
	} else {
		checkResult(t, "Div"+of, got, e, outward(combined(x, y, (*big.Rat).Quo)...), api.OK)
	}
	checkSets(t, x, y)
}

func lesser(a, b *big.Int) *big.Int {
	if a.Cmp(b) < 0 {
		return a
	}
	return b
}

func greater(a, b *big.Int) *big.Int {
	if a.Cmp(b) > 0 {
		return a
	}
	return b
}

// checkSets checks Within, Hull and Meet (P7.5).
func checkSets(t *testing.T, x, y box) {
	t.Helper()
	a, b := ivalOf(x), ivalOf(y)
	if got, want := Within(a, b), y.lo.Cmp(x.lo) <= 0 && x.hi.Cmp(y.hi) <= 0; got != want {
		t.Fatalf("Within(%s, %s) = %t, want %t", x.short(), y.short(), got, want)
	}
	if want := (box{lesser(x.lo, y.lo), greater(x.hi, y.hi)}); !isIval(Hull(a, b), want) {
		t.Fatalf("Hull(%s, %s) = %.300s, want %s", x.short(), y.short(), Hull(a, b).String(), want.short())
	}
	got, ok := Meet(a, b)
	want := box{greater(x.lo, y.lo), lesser(x.hi, y.hi)}
	if want.lo.Cmp(want.hi) > 0 {
		if ok || !isZeroValue(got) {
			t.Fatalf("Meet(%s, %s) = %.300s, %t, want [0, 0], false", x.short(), y.short(), got.String(), ok)
		}
		return
	}
	if !ok || !isIval(got, want) {
		t.Fatalf("Meet(%s, %s) = %.300s, %t, want %s, true", x.short(), y.short(), got.String(), ok, want.short())
	}
}

// checkMake checks Make for both orders of two fractions, and Of (P7.1).
func checkMake(t *testing.T, a, b *big.Rat) {
	t.Helper()
	limit := power(16000, 0)
	errorOf := func(list ...*big.Rat) api.Errno {
		for _, r := range list {
			if new(big.Int).Abs(r.Num()).Cmp(limit) >= 0 || r.Denom().Cmp(limit) >= 0 {
				return api.ErrLimit
			}
		}
		return api.OK
	}
	x, y := fracOf(a), fracOf(b)
	of := "(" + shortRat(a) + ", " + shortRat(b) + ")"
	got, e := Make(x, y)
	checkResult(t, "Make"+of, got, e, outward(a, b), errorOf(a, b))
	got, e = Make(y, x)
	checkResult(t, "Make, the other way round, of "+of, got, e, outward(a, b), errorOf(a, b))
	for _, c := range []struct {
		r *big.Rat
		x frac.Frac
	}{{a, x}, {b, y}} {
		got, e = Of(c.x)
		checkResult(t, "Of("+shortRat(c.r)+")", got, e, outward(c.r), errorOf(c.r))
		got, e = Make(c.x, c.x)
		checkResult(t, "Make of twice "+shortRat(c.r), got, e, outward(c.r), errorOf(c.r))
	}
}

// randomInt has at most most bits, often few, and any sign.
func randomInt(source *rand.Rand, most int) *big.Int {
	b := new(big.Int).Rand(source, power(uint(source.Intn(most+1)), 0))
	if source.Intn(2) == 0 {
		b.Neg(b)
	}
	return b
}

// randomRat has a numerator and a denominator of at most most bits; the denominator is often a power of 2.
func randomRat(source *rand.Rand, most int) *big.Rat {
	p, q := randomInt(source, most), randomInt(source, most)
	if source.Intn(3) == 0 {
		q = power(uint(source.Intn(min(most, 70))), 0)
	}
	if q.Sign() == 0 {
		q.SetInt64(-3)
	}
	return new(big.Rat).SetFrac(p, q)
}

// randomBox is often short, and sometimes has one point; its ends have at most most bits of parts.
func randomBox(source *rand.Rand, most int) box {
	a, b := randomInt(source, most), randomInt(source, most)
	switch source.Intn(4) {
	case 0:
		b.Set(a)
	case 1:
		b.Add(a, randomInt(source, min(most, 40)))
	}
	if !isEnd(b) {
		b.Set(a)
	}
	return box{lesser(a, b), greater(a, b)}
}

// randomOf is a fraction from lo to hi, often an end, and often no multiple of 2^-32.
func randomOf(source *rand.Rand, b box) *big.Rat {
	share := big.NewRat(int64(source.Intn(1001)), 1000)
	if source.Intn(3) == 0 {
		share = big.NewRat(int64(source.Intn(2)), 1)
	}
	width := exact(new(big.Int).Sub(b.hi, b.lo))
	return width.Add(width.Mul(width, share), exact(b.lo))
}

// randomPart is a box within b.
func randomPart(source *rand.Rand, b box) box {
	width := new(big.Int).Sub(b.hi, b.lo)
	end := func() *big.Int {
		more := new(big.Int).Rand(source, new(big.Int).Add(width, big.NewInt(1)))
		return more.Add(more, b.lo)
	}
	p, q := end(), end()
	switch source.Intn(4) {
	case 0:
		p.Set(b.lo)
	case 1:
		q.Set(b.hi)
	case 2:
		q.Set(p)
	}
	return box{lesser(p, q), greater(p, q)}
}

// someBoxes has boxes of all signs, those of one point, of few parts, and those at the ends of the range.
func someBoxes() []box {
	most := power(8192, -1)
	least := new(big.Int).Neg(most)
	list := []box{{least, most}, {least, least}, {most, most}, {big.NewInt(0), most}, {least, big.NewInt(0)}, {big.NewInt(1), most}, {least, big.NewInt(-1)}}
	for _, n := range []uint{1, 16, 31, 32, 33, 48, 64, 65, 100, 4111, 4112, 4113, 8160, 8190, 8191} {
		for _, more := range []int64{-1, 0, 1} {
			b := power(n, more)
			minus := new(big.Int).Neg(b)
			list = append(list, box{b, b}, box{minus, minus}, box{minus, b}, box{b, power(n, 5)}, box{big.NewInt(-3), b})
		}
	}
	for lo := int64(-2); lo <= 2; lo++ {
		for hi := lo; hi <= 2; hi++ {
			list = append(list, partsBox(lo, hi), wholeBox(lo, hi))
		}
	}
	return list
}

func must(t *testing.T, x Ival, e api.Errno) Ival {
	t.Helper()
	if e != api.OK {
		t.Fatalf("an operation returns the error %d", e)
	}
	return x
}

func parsed(t *testing.T, s string) frac.Frac {
	t.Helper()
	x, e := frac.Parse(s)
	if e != api.OK {
		t.Fatalf("%q is no fraction", s)
	}
	return x
}

// between is the interval that Make returns for two texts of fractions.
func between(t *testing.T, a, b string) Ival {
	t.Helper()
	x, e := Make(parsed(t, a), parsed(t, b))
	return must(t, x, e)
}

func TestExamplesOfTheChapter(t *testing.T) {
	for text, want := range map[string]string{"1/2": "[1/2, 1/2]", "1/3": "[1431655765/4294967296, 715827883/2147483648]"} {
		if x, e := Of(parsed(t, text)); e != api.OK || x.String() != want {
			t.Errorf("Of(%s) = %v, %d, want %s, OK", text, x, e, want)
		}
	}
	if x, e := Mul(between(t, "-1", "2"), between(t, "3", "4")); e != api.OK || x.String() != "[-4, 8]" {
		t.Errorf("[-1, 2] * [3, 4] = %v, %d, want [-4, 8], OK", x, e)
	}
	if x, e := Div(between(t, "1", "2"), between(t, "4", "8")); e != api.OK || x.String() != "[1/8, 1/2]" {
		t.Errorf("[1, 2] / [4, 8] = %v, %d, want [1/8, 1/2], OK", x, e)
	}
	if sign, e := Sign(between(t, "-1", "2")); sign != 0 || e != api.ErrSign {
		t.Errorf("Sign([-1, 2]) = %d, %d, want 0, ErrSign", sign, e)
	}
}

// The words of the chapter: the zero value of Ival is [0, 0].
func TestZeroValue(t *testing.T) {
	zero := Ival{}
	if zero.String() != "[0, 0]" || frac.Sign(zero.Lo()) != 0 || frac.Sign(zero.Hi()) != 0 || frac.Sign(Width(zero)) != 0 {
		t.Errorf("the zero value is %v, with the width %v", zero, Width(zero))
	}
	if sign, e := Sign(zero); sign != 0 || e != api.OK {
		t.Errorf("Sign of the zero value = %d, %d, want 0, OK", sign, e)
	}
	if x, e := Of(frac.Frac{}); e != api.OK || !isZeroValue(x) {
		t.Errorf("Of(0) = %v, %d, want the zero value, OK", x, e)
	}
	if !Has(zero, frac.Frac{}) || Has(zero, parsed(t, "1/1000000000000")) || Has(zero, parsed(t, "-1/1000000000000")) {
		t.Error("the zero value contains another number than 0, or not 0")
	}
	for _, x := range someBoxes() {
		checkPair(t, partsBox(0, 0), x)
		checkPair(t, x, partsBox(0, 0))
	}
}

// P7.1.
func TestMakeOfSmallFractions(t *testing.T) {
	list := []*big.Rat{}
	for _, q := range []int64{1, 2, 3, 1 << 31, 1 << 32, 1<<32 - 1, 1<<32 + 1, 1 << 33, 3 << 32, 1 << 40} {
		for _, p := range []int64{-5, -4, -3, -1, 0, 1, 2, 3, 7, 1 << 31, 1<<32 - 1, 1 << 32, 1<<33 + 1} {
			list = append(list, big.NewRat(p, q))
		}
	}
	for _, a := range list {
		for _, b := range list {
			checkMake(t, a, b)
		}
	}
}

// P7.1.
func TestMakeOfRandomFractions(t *testing.T) {
	source := rand.New(rand.NewSource(1))
	for range 5000 {
		checkMake(t, randomRat(source, 150), randomRat(source, 150))
	}
	for range 60 {
		checkMake(t, randomRat(source, 16384), randomRat(source, 16384))
		checkMake(t, randomRat(source, 16384), randomRat(source, 40))
	}
}

// P7.1: the greatest numerators and denominators, of either fraction.
func TestLimitsOfNumeratorsAndDenominators(t *testing.T) {
	one := big.NewInt(1)
	for _, c := range []struct {
		p, q *big.Int
		want api.Errno
	}{
		{one, power(16000, -1), api.OK},
		{one, power(16000, 0), api.ErrLimit},
		{one, power(16000, 1), api.ErrLimit},
		{one, power(16384, -1), api.ErrLimit},
		{power(16000, -1), power(15999, 1), api.OK},
		{power(16000, -1), power(7841, 0), api.OK},
		{power(16000, -1), power(7839, 0), api.ErrLimit},
		{power(16000, 1), power(15999, 0), api.ErrLimit},
		{power(15999, 0), power(16000, -1), api.OK},
		{power(15999, -1), power(16000, 0), api.ErrLimit},
		{power(16000, -1), power(16000, 1), api.ErrLimit},
		{power(16000, 0), power(16000, -1), api.ErrLimit},
		{power(16000, -2), power(16000, -1), api.OK},
		{power(16384, -1), power(16384, -2), api.ErrLimit},
		{power(16000, -1), one, api.ErrLimit},
		{power(16384, -1), one, api.ErrLimit},
	} {
		r := new(big.Rat).SetFrac(c.p, c.q)
		for _, a := range []*big.Rat{r, new(big.Rat).Neg(r)} {
			checkMake(t, a, big.NewRat(-5, 3))
			checkMake(t, a, big.NewRat(1<<40, 1))
			if _, e := Of(fracOf(a)); e != c.want {
				t.Errorf("Of of a fraction with %d and %d bits returns the error %d, want %d", c.p.BitLen(), c.q.BitLen(), e, c.want)
			}
		}
	}
}

// P7.1: the ends have to be in range after they are rounded.
func TestLimitsOfEnds(t *testing.T) {
	limit := new(big.Rat).SetInt(power(8160, 0))
	less := func(p, q int64) *big.Rat {
		part := exact(big.NewInt(1))
		part.Mul(part, big.NewRat(p, q))
		return new(big.Rat).Sub(limit, part)
	}
	for _, c := range []struct {
		a    *big.Rat
		want api.Errno
	}{
		{less(-1, 1), api.ErrLimit}, {less(-1, 3), api.ErrLimit}, {limit, api.ErrLimit}, {less(1, 1000), api.ErrLimit}, {less(1, 2), api.ErrLimit}, {less(2, 3), api.ErrLimit},
		{less(1, 1), api.OK}, {less(3, 2), api.OK}, {less(2, 1), api.OK}, {less(1<<40, 1), api.OK},
	} {
		for _, a := range []*big.Rat{c.a, new(big.Rat).Neg(c.a)} {
			if _, e := Of(fracOf(a)); e != c.want {
				t.Errorf("Of(%s) returns the error %d, want %d", a.FloatString(12), e, c.want)
			}
			for _, other := range []*big.Rat{new(big.Rat), big.NewRat(7, 3), a, less(1, 1), new(big.Rat).Neg(less(1, 1)), limit} {
				checkMake(t, a, other)
			}
		}
	}
}

// P7.2.
func TestEndsWidthAndText(t *testing.T) {
	source := rand.New(rand.NewSource(2))
	list := someBoxes()
	for range 2000 {
		list = append(list, randomBox(source, 150))
	}
	for _, b := range list {
		x := ivalOf(b)
		if x.Lo().String() != exact(b.lo).RatString() || x.Hi().String() != exact(b.hi).RatString() {
			t.Fatalf("the ends of %s are %.100s and %.100s", b.short(), x.Lo().String(), x.Hi().String())
		}
		width := new(big.Rat).Sub(exact(b.hi), exact(b.lo))
		if Width(x).String() != width.RatString() {
			t.Fatalf("Width(%s) = %.100s", b.short(), Width(x).String())
		}
		if x.String() != b.String() {
			t.Fatalf("String of %s = %.300s", b.short(), x.String())
		}
	}
}

// P7.2: texts written out from the words of the chapter.
func TestKnownTexts(t *testing.T) {
	for _, c := range []struct{ a, b, text, width string }{
		{"0", "0", "[0, 0]", "0"},
		{"5", "-7", "[-7, 5]", "12"},
		{"3/4", "-1/2", "[-1/2, 3/4]", "5/4"},
		{"-1/4294967296", "1/4294967296", "[-1/4294967296, 1/4294967296]", "1/2147483648"},
		{"1/8589934592", "1/8589934592", "[0, 1/4294967296]", "1/4294967296"},
		{"-1/8589934592", "-1/8589934592", "[-1/4294967296, 0]", "1/4294967296"},
		{"-1/3", "-1/3", "[-715827883/2147483648, -1431655765/4294967296]", "1/4294967296"},
		{"1/3", "2", "[1431655765/4294967296, 2]", "7158278827/4294967296"},
	} {
		x := between(t, c.a, c.b)
		if x.String() != c.text || Width(x).String() != c.width {
			t.Errorf("Make(%s, %s) = %v, with the width %v, want %s and %s", c.a, c.b, x, Width(x), c.text, c.width)
		}
	}
}

// P7.3 and P7.5: all boxes with few parts, and with small ends.
func TestPairsOfSmallBoxes(t *testing.T) {
	list := []box{}
	for lo := int64(-3); lo <= 3; lo++ {
		for hi := lo; hi <= 3; hi++ {
			list = append(list, partsBox(lo, hi), wholeBox(lo, hi))
		}
	}
	for _, x := range list {
		for _, y := range list {
			checkPair(t, x, y)
		}
	}
}

// P7.3 and P7.5.
func TestPairsOfSomeBoxes(t *testing.T) {
	list := someBoxes()
	source := rand.New(rand.NewSource(3))
	for range 1500 {
		checkPair(t, list[source.Intn(len(list))], list[source.Intn(len(list))])
	}
}

// P7.3 and P7.5.
func TestPairsOfRandomBoxes(t *testing.T) {
	source := rand.New(rand.NewSource(4))
	for range 8000 {
		checkPair(t, randomBox(source, 100), randomBox(source, 100))
	}
	for range 150 {
		checkPair(t, randomBox(source, 8192), randomBox(source, 8192))
		checkPair(t, randomBox(source, 8192), randomBox(source, 70))
	}
}

// P7.3: the ends of the range, for results that need rounding and for those that do not.
func TestLimitsOfArithmetic(t *testing.T) {
	point := func(b *big.Int) box { return box{b, b} }
	one, most := wholeBox(1, 1), power(8192, -1)
	type operation func(x, y Ival) (Ival, api.Errno)
	for _, c := range []struct {
		name string
		f    operation
		x, y box
		want api.Errno
	}{
		{"Add", Add, point(most), partsBox(0, 0), api.OK},
		{"Add", Add, point(most), partsBox(0, 1), api.ErrLimit},
		{"Add", Add, point(most), partsBox(-1, 0), api.OK},
		{"Add", Add, point(power(8191, 0)), point(power(8191, -1)), api.OK},
		{"Add", Add, point(power(8191, 0)), point(power(8191, 0)), api.ErrLimit},
		{"Sub", Sub, point(most), partsBox(-1, 0), api.ErrLimit},
		{"Sub", Sub, point(most), partsBox(0, 1), api.OK},
		{"Sub", Sub, partsBox(0, 0), point(most), api.OK},
		{"Sub", Sub, partsBox(-1, 0), point(most), api.ErrLimit},
		{"Mul", Mul, point(most), one, api.OK},
		{"Mul", Mul, point(most), point(power(32, -1)), api.OK},
		{"Mul", Mul, point(most), point(power(32, 1)), api.ErrLimit},
		{"Mul", Mul, point(most), point(most), api.ErrLimit},
		{"Mul", Mul, box{big.NewInt(0), most}, wholeBox(0, 2), api.ErrLimit},
		{"Mul", Mul, point(power(4112, 0)), point(power(4112, 0)), api.ErrLimit},
		{"Mul", Mul, point(power(4112, 0)), point(power(4112, -1)), api.OK},
		{"Mul", Mul, point(power(4112, -1)), point(power(4112, 1)), api.ErrLimit}, // less than the limit before it is rounded
		{"Div", Div, point(most), one, api.OK},
		{"Div", Div, point(most), point(power(32, 1)), api.OK},
		{"Div", Div, point(most), point(power(32, -1)), api.ErrLimit},
		{"Div", Div, point(power(8160, 0)), partsBox(1, 1), api.ErrLimit},
		{"Div", Div, point(power(8160, -1)), partsBox(1, 1), api.OK},
		{"Div", Div, point(power(8160, -1)), partsBox(1, 7), api.OK},
		{"Div", Div, point(most), partsBox(0, 1), api.ErrZero},
		{"Div", Div, point(most), partsBox(-1, 0), api.ErrZero},
	} {
		minus := func(b box) box { return box{new(big.Int).Neg(b.hi), new(big.Int).Neg(b.lo)} }
		for _, x := range []box{c.x, minus(c.x)} {
			y := c.y
			if x.lo.Cmp(c.x.lo) != 0 {
				y = minus(y)
			}
			checkPair(t, x, y)
			checkPair(t, y, x)
			if got, e := c.f(ivalOf(x), ivalOf(y)); e != c.want || e != api.OK && !isZeroValue(got) {
				t.Errorf("%s(%s, %s) = %.100s, %d, want the error %d", c.name, x.short(), y.short(), got.String(), e, c.want)
			}
		}
	}
}

// P7.3.
func TestDivByZero(t *testing.T) {
	for _, y := range []box{partsBox(0, 0), partsBox(0, 1), partsBox(-1, 0), partsBox(-1, 1), wholeBox(-3, 5), {big.NewInt(0), power(8192, -1)}} {
		for _, x := range someBoxes() {
			if got, e := Div(ivalOf(x), ivalOf(y)); e != api.ErrZero || !isZeroValue(got) {
				t.Errorf("Div(%s, %s) = %.100s, %d, want [0, 0], ErrZero", x.short(), y.short(), got.String(), e)
			}
		}
	}
}

// P7.4.
func TestSign(t *testing.T) {
	most := power(8192, -1)
	for _, c := range []struct {
		x    box
		want int
		e    api.Errno
	}{
		{partsBox(1, 1), 1, api.OK},
		{partsBox(1, 5), 1, api.OK},
		{wholeBox(2, 3), 1, api.OK},
		{box{big.NewInt(1), most}, 1, api.OK},
		{partsBox(-1, -1), -1, api.OK},
		{partsBox(-5, -1), -1, api.OK},
		{wholeBox(-3, -2), -1, api.OK},
		{box{new(big.Int).Neg(most), big.NewInt(-1)}, -1, api.OK},
		{partsBox(0, 0), 0, api.OK},
		{partsBox(0, 1), 0, api.ErrSign},
		{partsBox(-1, 0), 0, api.ErrSign},
		{partsBox(-1, 1), 0, api.ErrSign},
		{wholeBox(-1, 2), 0, api.ErrSign},
		{box{new(big.Int).Neg(most), most}, 0, api.ErrSign},
	} {
		if sign, e := Sign(ivalOf(c.x)); sign != c.want || e != c.e {
			t.Errorf("Sign(%s) = %d, %d, want %d, %d", c.x.short(), sign, e, c.want, c.e)
		}
	}
}

// P7.5: fractions at the ends and next to them, some of which no interval can have as ends.
func TestHas(t *testing.T) {
	source := rand.New(rand.NewSource(5))
	list := someBoxes()
	for range 300 {
		list = append(list, randomBox(source, 100))
	}
	tiny := new(big.Rat).SetFrac(big.NewInt(1), power(8000, 0))
	for _, b := range list {
		x, lo, hi := ivalOf(b), exact(b.lo), exact(b.hi)
		middle := new(big.Rat).Add(lo, hi)
		middle.Quo(middle, big.NewRat(2, 1))
		for _, c := range []struct {
			y    *big.Rat
			want bool
		}{
			{lo, true},
			{hi, true},
			{middle, true},
			{new(big.Rat).Sub(lo, tiny), false},
			{new(big.Rat).Add(hi, tiny), false},
			{new(big.Rat).Add(lo, tiny), lo.Cmp(hi) < 0},
			{new(big.Rat).Sub(hi, tiny), lo.Cmp(hi) < 0},
		} {
			if got := Has(x, fracOf(c.y)); got != c.want {
				t.Fatalf("Has(%s, %s) = %t, want %t", b.short(), shortRat(c.y), got, c.want)
			}
		}
	}
}

// P7.5: fractions for which Make returns an error.
func TestHasOfGreatFractions(t *testing.T) {
	most := power(16384, -1)
	all := ivalOf(box{new(big.Int).Neg(power(8192, -1)), power(8192, -1)})
	for _, c := range []struct {
		x    Ival
		p, q *big.Int
		want bool
	}{
		{all, most, big.NewInt(1), false},
		{all, power(8160, 0), big.NewInt(1), false},
		{all, most, power(16384, -2), true},
		{all, big.NewInt(1), most, true},
		{ivalOf(wholeBox(1, 2)), most, power(16384, -2), true},
		{ivalOf(wholeBox(1, 2)), power(16384, -2), most, false},
		{ivalOf(partsBox(0, 0)), big.NewInt(1), most, false},
		{ivalOf(partsBox(0, 1)), big.NewInt(1), most, true},
		{ivalOf(partsBox(1, 1)), big.NewInt(1), most, false},
	} {
		r := new(big.Rat).SetFrac(c.p, c.q)
		mirror, e := Sub(Ival{}, c.x)
		if got := Has(c.x, fracOf(r)); got != c.want {
			t.Errorf("Has(%.50s, %s) = %t, want %t", c.x.String(), shortRat(r), got, c.want)
		}
		if got := Has(must(t, mirror, e), fracOf(r.Neg(r))); got != c.want {
			t.Errorf("Has(%.50s, %s) = %t, want %t", mirror.String(), shortRat(r), got, c.want)
		}
	}
}

// operations are the functions of arithmetic, with those of package frac.
func operations() map[string]struct {
	ofIvals func(x, y Ival) (Ival, api.Errno)
	ofFracs func(a, b frac.Frac) (frac.Frac, api.Errno)
} {
	return map[string]struct {
		ofIvals func(x, y Ival) (Ival, api.Errno)
		ofFracs func(a, b frac.Frac) (frac.Frac, api.Errno)
	}{"Add": {Add, frac.Add}, "Sub": {Sub, frac.Sub}, "Mul": {Mul, frac.Mul}, "Div": {Div, frac.Div}}
}

// P7.6.
func TestEnclosure(t *testing.T) {
	source := rand.New(rand.NewSource(6))
	known := map[string]int{}
	for range 4000 {
		x, y := randomBox(source, 90), randomBox(source, 90)
		a, b := fracOf(randomOf(source, x)), fracOf(randomOf(source, y))
		if !Has(ivalOf(x), a) || !Has(ivalOf(y), b) {
			t.Fatalf("%s does not contain %v, or %s not %v", x, a, y, b)
		}
		for name, op := range operations() {
			result, e := op.ofIvals(ivalOf(x), ivalOf(y))
			if e != api.OK {
				continue
			}
			known[name]++
			point, e := op.ofFracs(a, b)
			if e != api.OK || !Has(result, point) {
				t.Fatalf("%s(%s, %s) = %v, which does not contain %v, that of %v and %v", name, x, y, result, point, a, b)
			}
		}
	}
	for name := range operations() {
		if known[name] < 1000 {
			t.Errorf("only %d results of %s were examined", known[name], name)
		}
	}
}

// P7.7.
func TestTight(t *testing.T) {
	part := parsed(t, "1/4294967296")
	check := func(name string, end, other frac.Frac) {
		t.Helper()
		off, e := frac.Sub(end, other)
		if frac.Sign(off) < 0 {
			off, e = frac.Sub(other, end)
		}
		if e != api.OK || frac.Compare(off, part) >= 0 {
			t.Fatalf("an end of a result of %s is %v, but the exact one %v", name, end, other)
		}
	}
	source := rand.New(rand.NewSource(7))
	for range 2000 {
		a, b := randomRat(source, 120), randomRat(source, 120)
		if a.Cmp(b) > 0 {
			a, b = b, a
		}
		made, e := Make(fracOf(a), fracOf(b))
		must(t, made, e)
		check("Make", made.Lo(), fracOf(a))
		check("Make", made.Hi(), fracOf(b))
		x, y := randomBox(source, 90), randomBox(source, 90)
		for name, f := range map[string]func(result, a, b *big.Rat) *big.Rat{"Mul": (*big.Rat).Mul, "Div": (*big.Rat).Quo} {
			result, e := operations()[name].ofIvals(ivalOf(x), ivalOf(y))
			if e == api.ErrZero {
				continue
			}
			must(t, result, e)
			list := combined(x, y, f)
			check(name, result.Lo(), fracOf(slices.MinFunc(list, (*big.Rat).Cmp)))
			check(name, result.Hi(), fracOf(slices.MaxFunc(list, (*big.Rat).Cmp)))
		}
	}
}

// P7.8.
func TestInclusion(t *testing.T) {
	source := rand.New(rand.NewSource(8))
	for range 4000 {
		u, v := randomBox(source, 90), randomBox(source, 90)
		x, y := randomPart(source, u), randomPart(source, v)
		if !Within(ivalOf(x), ivalOf(u)) || !Within(ivalOf(y), ivalOf(v)) {
			t.Fatalf("%s is not Within %s, or %s not Within %s", x, u, y, v)
		}
		for name, op := range operations() {
			outer, e := op.ofIvals(ivalOf(u), ivalOf(v))
			if e != api.OK {
				continue
			}
			inner, e := op.ofIvals(ivalOf(x), ivalOf(y))
			if e != api.OK || !Within(inner, outer) {
				t.Fatalf("%s(%s, %s) = %v, %d, which is not Within %v, that of %s and %s", name, x, y, inner, e, outer, u, v)
			}
		}
	}
}

// P7.9.
func TestLattice(t *testing.T) {
	source := rand.New(rand.NewSource(9))
	meetings := 0
	for range 4000 {
		most := 2 + source.Intn(60)
		b, c := randomBox(source, most), randomBox(source, most)
		x, y := ivalOf(b), ivalOf(c)
		hull := Hull(x, y)
		if !reflect.DeepEqual(hull, Hull(y, x)) || !Within(x, hull) || !Within(y, hull) {
			t.Fatalf("Hull(%s, %s) = %v, and %v the other way round", b, c, hull, Hull(y, x))
		}
		meet, ok := Meet(x, y)
		other, same := Meet(y, x)
		if ok != same || !reflect.DeepEqual(meet, other) {
			t.Fatalf("Meet(%s, %s) = %v, %t, and %v, %t the other way round", b, c, meet, ok, other, same)
		}
		if ok && (!Within(meet, x) || !Within(meet, y)) {
			t.Fatalf("Meet(%s, %s) = %v is not Within both", b, c, meet)
		}
		for _, from := range []box{b, c, {lesser(b.lo, c.lo), greater(b.hi, c.hi)}} {
			a := fracOf(randomOf(source, from))
			haveBoth := Has(x, a) && Has(y, a)
			if haveBoth && !ok || ok && Has(meet, a) != haveBoth {
				t.Fatalf("Meet(%s, %s) = %v, %t, but both contain %v: %t", b, c, meet, ok, a, haveBoth)
			}
		}
		if ok {
			meetings++
		}
	}
	if meetings < 1000 || meetings > 3500 {
		t.Errorf("%d pairs have fractions in common", meetings)
	}
}

// P7.9: intervals that touch, or lie one part apart.
func TestMeetOfNeighbors(t *testing.T) {
	for _, c := range []struct {
		x, y, want box
		ok         bool
	}{
		{partsBox(1, 2), partsBox(2, 3), partsBox(2, 2), true},
		{partsBox(1, 2), partsBox(3, 4), partsBox(0, 0), false},
		{partsBox(-4, 0), partsBox(0, 3), partsBox(0, 0), true},
		{partsBox(-4, -1), partsBox(0, 3), partsBox(0, 0), false},
		{wholeBox(1, 9), wholeBox(3, 4), wholeBox(3, 4), true},
		{wholeBox(-1, 4), wholeBox(3, 9), wholeBox(3, 4), true},
		{wholeBox(-1, 1), wholeBox(3, 9), partsBox(0, 0), false},
		{wholeBox(5, 5), wholeBox(5, 5), wholeBox(5, 5), true},
	} {
		for _, pair := range [][2]box{{c.x, c.y}, {c.y, c.x}} {
			if got, ok := Meet(ivalOf(pair[0]), ivalOf(pair[1])); ok != c.ok || !isIval(got, c.want) {
				t.Errorf("Meet(%s, %s) = %v, %t, want %s, %t", pair[0], pair[1], got, ok, c.want, c.ok)
			}
		}
	}
}

// memoryOf returns where the elements of the slices in v are.
func memoryOf(v reflect.Value) []uintptr {
	list := []uintptr{}
	switch v.Kind() {
	case reflect.Struct:
		for i := range v.NumField() {
			list = append(list, memoryOf(v.Field(i))...)
		}
	case reflect.Slice:
		if v.Len() > 0 {
			list = append(list, v.Pointer())
		}
	}
	return list
}

// R3 of DOC.md.
func TestResultsShareNoMemory(t *testing.T) {
	calls := map[string]func(x, y Ival, a, b frac.Frac) []any{
		"Of":    func(x, y Ival, a, b frac.Frac) []any { z, _ := Of(a); return []any{z} },
		"Make":  func(x, y Ival, a, b frac.Frac) []any { z, _ := Make(a, b); return []any{z} },
		"Hull":  func(x, y Ival, a, b frac.Frac) []any { return []any{Hull(x, y)} },
		"Meet":  func(x, y Ival, a, b frac.Frac) []any { z, _ := Meet(x, y); return []any{z} },
		"ends":  func(x, y Ival, a, b frac.Frac) []any { return []any{x.Lo(), x.Hi(), x.Lo(), Width(x)} },
		"tests": func(x, y Ival, a, b frac.Frac) []any { Sign(x); return []any{Has(x, a), Within(x, y)} },
	}
	for name, op := range operations() {
		calls[name] = func(x, y Ival, a, b frac.Frac) []any { z, _ := op.ofIvals(x, y); return []any{z} }
	}
	boxes := []box{partsBox(0, 0), partsBox(5, 5), partsBox(-5, -5), partsBox(-5, 7), wholeBox(1, 1), wholeBox(1, 2), wholeBox(-2, -1), {power(100, 0), power(100, 3)}}
	for name, call := range calls {
		for i, c := range boxes {
			for j, d := range boxes {
				x, y := ivalOf(c), ivalOf(d)
				a, b := fracOf(big.NewRat(int64(i), 7)), fracOf(big.NewRat(int64(j), 4))
				texts := x.String() + y.String() + a.String() + " " + b.String()
				seen := []uintptr{}
				for _, v := range append([]any{x, y, a, b}, call(x, y, a, b)...) {
					for _, at := range memoryOf(reflect.ValueOf(v)) {
						if slices.Contains(seen, at) {
							t.Fatalf("a result of %s shares memory with another one, or with an argument: %s, %s, %v, %v", name, c, d, a, b)
						}
						seen = append(seen, at)
					}
				}
				if texts != x.String()+y.String()+a.String()+" "+b.String() {
					t.Fatalf("%s changes %s to %v, %v, %v, %v", name, texts, x, y, a, b)
				}
			}
		}
	}
}
