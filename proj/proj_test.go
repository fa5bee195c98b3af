package proj

import (
	"math"
	"math/big"
	"math/rand"
	"testing"

	"skymosaic/api"
	"skymosaic/frac"
	"skymosaic/ival"
	"skymosaic/poly"
)

var (
	identity = proj(1, 0, 0, 0, 1, 0, 0, 0, 1)
	sample   = proj(2, 0, 3, 0, 2, 5, 0, 0, 1)
	corners  = proj(6, 0, 0, 0, 6, 0, -1, -1, 4)
)

// checkApply checks where a valid projection takes a point (P12.2), and tells whether it takes it anywhere.
func checkApply(t *testing.T, p api.Proj, u, v *big.Rat) bool {
	t.Helper()
	x, y, e := Apply(p, fracOf(u), fracOf(v))
	wantX, wantY, ok := imageOf(p, u, v)
	if !ok {
		if e != api.ErrZero || x.String() != "0" || y.String() != "0" {
			t.Fatalf("Apply(%v, %.99v, %.99v) = %.99v, %.99v, %d, want 0, 0, ErrZero", p.M, u, v, x, y, e)
		}
		return false
	}
	if e != api.OK || x.String() != wantX.RatString() || y.String() != wantY.RatString() {
		t.Fatalf("Apply(%v, %.99v, %.99v) = %.99v, %.99v, %d, want %.99v, %.99v, OK", p.M, u, v, x, y, e, wantX, wantY)
	}
	return true
}

func TestExamplesOfTheChapter(t *testing.T) {
	x, y, e := Apply(sample, number("1/2"), number("1"))
	if x.String() != "4" || y.String() != "7" || e != api.OK {
		t.Errorf("Apply = %v, %v, %d, want 4, 7, OK", x, y, e)
	}
	p, e := Inverse(sample)
	checkProj(t, "Inverse", p, e, proj(1, 0, -3, 0, 1, -5, 0, 0, 2), api.OK)
	p, e = Four([4]api.Point{{}, {X: 1}, {X: 1, Y: 1}, {Y: 1}}, [4]api.Point{{}, {X: 2}, {X: 3, Y: 3}, {Y: 2}})
	checkProj(t, "Four", p, e, corners, api.OK)
	x, y, e = Apply(p, number("1/2"), number("1/2"))
	if x.String() != "1" || y.String() != "1" || e != api.OK {
		t.Errorf("Apply = %v, %v, %d, want 1, 1, OK", x, y, e)
	}
}

// P12.1: each number at its limits and just beyond them, where the determinant is not 0, and where it is.
func TestLimitsOfNumbers(t *testing.T) {
	for _, n := range []int{1 << 30, -1 << 30, 1<<30 + 1, -1<<30 - 1, math.MaxInt, math.MinInt} {
		for i := range 9 {
			for _, p := range append(turns(), proj(1, 2, 3, 4, 5, 6, 7, 8, 9), api.Proj{}) {
				p.M[i] = n
				if e, want := Valid(p), validity(p); e != want {
					t.Errorf("Valid(%v) = %d, want %d", p.M, e, want)
				}
			}
		}
	}
}

// P12.1: determinants around 0, also those of the greatest numbers, which do not fit in an int.
func TestDeterminants(t *testing.T) {
	source := rand.New(rand.NewSource(1))
	count := map[api.Errno]int{}
	check := func(p api.Proj) {
		t.Helper()
		want := validity(p)
		if e := Valid(p); e != want {
			t.Fatalf("Valid(%v) = %d, want %d", p.M, e, want)
		}
		count[want]++
	}
	for range 3000 {
		p := api.Proj{}
		for i := range p.M {
			p.M[i] = source.Intn(5) - 2
		}
		check(p)
		for i := range p.M {
			p.M[i] *= 1 << 29
		}
		check(p)
		for i := range 3 { // the sum of two rows, with numbers of any size
			p.M[i], p.M[3+i] = source.Intn(1<<30)-1<<29, source.Intn(1<<30)-1<<29
			p.M[6+i] = p.M[i] + p.M[3+i]
		}
		check(p)
		p.M[source.Intn(9)] ^= 1
		check(p)
	}
	// the determinants are 2^64 and 2^90, which leave nothing in 64 bits
	check(proj(1<<22, 0, 0, 0, 1<<21, 0, 0, 0, 1<<21))
	check(proj(1<<30, 0, 0, 0, 1<<30, 0, 0, 0, 1<<30))
	if count[api.OK] < 3000 || count[api.ErrFlat] < 3000 {
		t.Errorf("there are %v results", count)
	}
}

// P12.1: the error of Valid comes ahead of all others, and of results that there would be.
func TestInvalidProjections(t *testing.T) {
	long, great := fracOf(integer(power2(1000, 0))), greatest(t)
	for _, v := range []struct {
		p    api.Proj
		want api.Errno
	}{
		{api.Proj{}, api.ErrFlat},
		{proj(1, 2, 3, 4, 5, 6, 7, 8, 9), api.ErrFlat},
		{proj(1, 0, 0, 0, 1, 0, 1, 1, 0), api.ErrFlat},
		{proj(1<<30+1, 0, 0, 0, 1, 0, 0, 0, 1), api.ErrArg},
		{proj(1, 0, 0, 0, 1, 0, 0, 0, -1<<30-1), api.ErrArg},
		{proj(0, 0, 0, 0, 0, 0, 0, 0, 1<<30+1), api.ErrArg},
		{proj(math.MinInt, 0, 0, 0, math.MinInt, 0, 0, 0, math.MinInt), api.ErrArg},
	} {
		if e := Valid(v.p); e != v.want {
			t.Errorf("Valid(%v) = %d, want %d", v.p.M, e, v.want)
		}
		for _, at := range []frac.Frac{{}, number("1/2"), long} {
			if x, y, e := Apply(v.p, at, at); e != v.want || x.String() != "0" || y.String() != "0" {
				t.Errorf("Apply(%v) = %v, %v, %d, want 0, 0, %d", v.p.M, x, y, e, v.want)
			}
		}
		for _, at := range []ival.Ival{{}, interval(t, big.NewRat(1, 2), big.NewRat(3, 4)), great} {
			if x, y, e := Enclose(v.p, at, at); e != v.want || x.String() != "[0, 0]" || y.String() != "[0, 0]" {
				t.Errorf("Enclose(%v) = %v, %v, %d, want [0, 0], [0, 0], %d", v.p.M, x, y, e, v.want)
			}
		}
		p, e := Inverse(v.p)
		checkProj(t, "Inverse", p, e, api.Proj{}, v.want)
		p, e = Normal(v.p)
		checkProj(t, "Normal", p, e, api.Proj{}, v.want)
		for _, other := range []api.Proj{sample, proj(1, 0, 1<<30, 0, 1, 0, 0, 0, 1<<30-1)} {
			p, e = Compose(v.p, other)
			checkProj(t, "Compose", p, e, api.Proj{}, v.want)
			p, e = Compose(other, v.p)
			checkProj(t, "Compose", p, e, api.Proj{}, v.want)
		}
	}
	flat, beyond := api.Proj{}, proj(1<<30+1, 0, 0, 0, 1, 0, 0, 0, 1)
	p, e := Compose(flat, beyond)
	checkProj(t, "Compose", p, e, api.Proj{}, api.ErrFlat)
	p, e = Compose(beyond, flat)
	checkProj(t, "Compose", p, e, api.Proj{}, api.ErrArg)
}

// P12.2.
func TestApply(t *testing.T) {
	source := rand.New(rand.NewSource(2))
	for _, most := range []int{1, 3, 1000, 1 << 30} {
		for range 1000 {
			checkApply(t, randomProj(source, most), randomRat(source, 30), randomRat(source, 30))
		}
	}
	for range 30 {
		checkApply(t, randomProj(source, 1<<30), randomRat(source, 1000), randomRat(source, 1000))
	}
	for _, p := range turns() {
		checkApply(t, p, big.NewRat(2, 3), big.NewRat(-5, 7))
	}
}

// P12.2: the points of the line that is taken nowhere, and those next to it.
func TestApplyNowhere(t *testing.T) {
	source := rand.New(rand.NewSource(3))
	for range 500 {
		p := randomProj(source, []int{4, 1 << 30}[source.Intn(2)])
		p.M[7] = 1 + source.Intn(1<<30)
		if validity(p) != api.OK {
			continue
		}
		u := randomRat(source, 20)
		v := new(big.Rat).Mul(u, big.NewRat(int64(p.M[6]), 1))
		v.Add(v, big.NewRat(int64(p.M[8]), 1))
		v.Quo(v, big.NewRat(int64(-p.M[7]), 1))
		if checkApply(t, p, u, v) {
			t.Fatalf("Apply(%v, %v, %v) has a result", p.M, u, v)
		}
		if !checkApply(t, p, u, v.Add(v, big.NewRat(1, 1<<40))) {
			t.Fatalf("Apply(%v, %v, %v) has no result", p.M, u, v)
		}
	}
	if checkApply(t, proj(0, 0, 1, 0, 1, 0, 1, 0, 0), new(big.Rat), new(big.Rat)) {
		t.Error("a point of the line u = 0 is taken somewhere")
	}
}

// P12.2: too many digits above or below, of u or v, are found ahead of d = 0.
func TestLimitOfDigits(t *testing.T) {
	nowhere := proj(1, 0, 0, 0, 0, 1, 1, -1, 0)
	tooLong := []*big.Rat{integer(power2(1000, 0)), integer(new(big.Int).Neg(power2(1000, 0))),
		new(big.Rat).SetFrac(power2(0, 0), power2(1000, 0)), integer(power2(16384, -1)),
		new(big.Rat).SetFrac(power2(1000, -1), power2(1000, 0))}
	for _, p := range []api.Proj{identity, nowhere} {
		for _, r := range tooLong {
			long, one := fracOf(r), number("1")
			for _, at := range [][2]frac.Frac{{long, one}, {one, long}, {long, long}} {
				if x, y, e := Apply(p, at[0], at[1]); e != api.ErrLimit || x.String() != "0" || y.String() != "0" {
					t.Errorf("Apply(%v, %.50v, %.50v) = %v, %v, %d, want 0, 0, ErrLimit", p.M, at[0], at[1], x, y, e)
				}
			}
		}
	}
}

// P12.2: the greatest numbers with the longest coordinates.
func TestGreatestImages(t *testing.T) {
	u := new(big.Rat).SetFrac(power2(1000, -1), power2(1000, -3))
	v := new(big.Rat).SetFrac(power2(1000, -5), power2(1000, -9))
	p := proj(1<<30, 1<<30-1, 1<<30, -1<<30, 1<<30-3, 1<<30, 1<<30-7, 1<<30, 1<<30-2)
	for range 4 {
		if !checkApply(t, p, u, v) {
			t.Error("Apply has no result")
		}
		x, _, _ := Apply(p, fracOf(u), fracOf(v))
		if digits := poly.Digits(x); digits < 2020 || digits > 2032 {
			t.Errorf("the image has %d digits", digits)
		}
		u, v = v, u.Neg(u)
	}
}

// P12.11: points on a line are taken to points on a line.
func TestLines(t *testing.T) {
	source := rand.New(rand.NewSource(4))
	compared := 0
	for range 1000 {
		p := randomProj(source, []int{5, 1 << 30}[source.Intn(2)])
		u, v, du, dv := randomRat(source, 9), randomRat(source, 9), randomRat(source, 9), randomRat(source, 9)
		xs, ys := []*big.Rat{}, []*big.Rat{}
		for _, factor := range []*big.Rat{new(big.Rat), randomRat(source, 5), randomRat(source, 5)} {
			atU, atV := new(big.Rat).Mul(factor, du), new(big.Rat).Mul(factor, dv)
			x, y, e := Apply(p, fracOf(atU.Add(atU, u)), fracOf(atV.Add(atV, v)))
			if e == api.OK {
				xs, ys = append(xs, ratOf(x)), append(ys, ratOf(y))
			}
		}
		if len(xs) < 3 {
			continue
		}
		compared++
		for i := 1; i < 3; i++ {
			xs[i].Sub(xs[i], xs[0])
			ys[i].Sub(ys[i], ys[0])
		}
		if new(big.Rat).Mul(xs[1], ys[2]).Cmp(new(big.Rat).Mul(xs[2], ys[1])) != 0 {
			t.Fatalf("Apply(%v) bends the line from %v, %v in the direction %v, %v", p.M, u, v, du, dv)
		}
	}
	if compared < 900 {
		t.Errorf("only %d lines were compared", compared)
	}
}
