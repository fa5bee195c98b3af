package proj

import (
	"math/big"
	"math/rand"
	"testing"

	"skymosaic/api"
)

// checkNormal checks that a projection is normal, and has the same ratios as another one.
func checkNormal(t *testing.T, p, of api.Proj) {
	t.Helper()
	divisor, sign := new(big.Int), 0
	for i, n := range p.M {
		divisor.GCD(nil, nil, divisor, new(big.Int).Abs(big.NewInt(int64(n))))
		if sign == 0 {
			sign = big.NewInt(int64(n)).Sign()
		}
		for k, m := range p.M {
			if n*of.M[k] != m*of.M[i] {
				t.Fatalf("%v is no multiple of %v", of.M, p.M)
			}
		}
	}
	if divisor.Cmp(big.NewInt(1)) != 0 || sign != 1 {
		t.Fatalf("%v is not normal", p.M)
	}
}

// normalized returns the normal projection of a valid one.
func normalized(t *testing.T, p api.Proj) api.Proj {
	t.Helper()
	n, e := Normal(p)
	if e != api.OK {
		t.Fatalf("Normal(%v) returns the error %d", p.M, e)
	}
	return n
}

// P12.3.
func TestNormal(t *testing.T) {
	source := rand.New(rand.NewSource(10))
	for range 1000 {
		p := randomProj(source, []int{1, 9, 1 << 15, 1 << 30}[source.Intn(4)])
		checkNormal(t, normalized(t, p), p)
		p = randomProj(source, 1<<15)
		factor := []int{1 << 15, -1 << 15, 2, -1, 7 * 11 * 13, 1 + source.Intn(1<<15)}[source.Intn(6)]
		for i := range p.M {
			p.M[i] *= factor
		}
		checkNormal(t, normalized(t, p), p)
	}
	for _, p := range turns() {
		for _, factor := range []int{1, -1, 1 << 30, -1 << 30} {
			multiple := p
			for i := range multiple.M {
				multiple.M[i] *= factor
			}
			checkNormal(t, normalized(t, multiple), p)
		}
	}
}

// P12.3: the common factor is that of all numbers, and only one of them does not have it.
func TestCommonFactors(t *testing.T) {
	for i := range 9 {
		for _, n := range []int{5, -5, 0, 9, 1 << 30} {
			p := proj(6, 12, 18, -24, 36, 30, 42, 6, -54)
			p.M[i] = n
			if validity(p) != api.OK {
				t.Fatalf("%v is not valid", p.M)
			}
			checkNormal(t, normalized(t, p), p)
		}
	}
}

// P12.3 and P12.8.
func TestInverse(t *testing.T) {
	source := rand.New(rand.NewSource(11))
	count := map[api.Errno]int{}
	for range 2000 {
		p := randomProj(source, []int{1, 9, 1 << 14, 1 << 15, 1 << 30}[source.Intn(5)])
		count[checkInverse(t, p)]++
	}
	for _, p := range turns() {
		checkInverse(t, p)
	}
	if count[api.OK] < 500 || count[api.ErrRange] < 200 {
		t.Errorf("there are %v results", count)
	}
}

// checkInverse checks the inverse of a valid projection, and what P12.8 says about it. It returns the error.
func checkInverse(t *testing.T, p api.Proj) api.Errno {
	t.Helper()
	want, wantE := inverseOf(p)
	q, e := Inverse(p)
	checkProj(t, "Inverse", q, e, want, wantE)
	if e != api.OK {
		return e
	}
	again, e := Inverse(q)
	checkProj(t, "Inverse of Inverse", again, e, normalized(t, p), api.OK)
	both, e := Compose(p, q)
	checkProj(t, "Compose with Inverse", both, e, identity, api.OK)
	both, e = Compose(q, p)
	checkProj(t, "Compose of Inverse", both, e, identity, api.OK)
	u, v := big.NewRat(3, 7), big.NewRat(-5, 2)
	if x, y, ok := imageOf(p, u, v); ok {
		if backU, backV, e := Apply(q, fracOf(x), fracOf(y)); e != api.OK || ratOf(backU).Cmp(u) != 0 || ratOf(backV).Cmp(v) != 0 {
			t.Fatalf("the inverse of %v takes %v, %v to %v, %v, %d, want %v, %v", p.M, x, y, backU, backV, e, u, v)
		}
	}
	return api.OK
}

// P12.3: the greatest number of the inverse, in each place and with each sign, is at its limit, or just beyond it.
func TestLimitsOfInverse(t *testing.T) {
	for low, want := range map[int]api.Errno{-1: api.ErrRange, 0: api.OK, 1: api.OK} {
		p := proj(1<<15, 1, 0, low, 1<<15, 0, 0, 0, 1)
		for _, left := range turns() {
			for _, right := range turns() {
				q := turned(t, left, p, right)
				if e := checkInverse(t, q); e != want {
					t.Fatalf("Inverse(%v) returns the error %d, want %d", q.M, e, want)
				}
			}
		}
	}
}

// P12.3: inverses with numbers up to 2^61 before they are divided.
func TestGreatestInverses(t *testing.T) {
	most := 1 << 30
	for _, v := range []struct {
		p    api.Proj
		want api.Errno
	}{
		{proj(most, 0, 0, 0, most, 0, 0, 0, most), api.OK},
		{proj(most, most, 0, -most, most, 0, 0, 0, most), api.OK},
		{proj(most, most, 0, -most, most, 0, 0, 0, 2), api.OK},
		{proj(most, most, 0, -most, most, 0, 0, 0, 1), api.ErrRange},
		{proj(most, most, 0, 1-most, most, 0, 0, 0, most), api.ErrRange},
		{proj(most, 0, 1, 0, most, 0, 0, 0, 1), api.OK},
		{proj(most, 0, 1, 0, most-1, 0, 0, 0, 1), api.ErrRange},
	} {
		if e := checkInverse(t, v.p); e != v.want {
			t.Errorf("Inverse(%v) returns the error %d, want %d", v.p.M, e, v.want)
		}
	}
}

// checkCompose checks the product of two valid projections, and returns the error.
func checkCompose(t *testing.T, p, q api.Proj) api.Errno {
	t.Helper()
	want, wantE := productOf(p, q)
	r, e := Compose(p, q)
	checkProj(t, "Compose", r, e, want, wantE)
	return e
}

// P12.3 and P12.9: Compose applies one after the other.
func TestCompose(t *testing.T) {
	source := rand.New(rand.NewSource(12))
	count, applied := map[api.Errno]int{}, 0
	for range 2000 {
		most := []int{1, 9, 1 << 14, 1 << 15, 1 << 30}[source.Intn(5)]
		p, q := randomProj(source, most), randomProj(source, most)
		e := checkCompose(t, p, q)
		count[e]++
		u, v := randomRat(source, 20), randomRat(source, 20)
		midU, midV, ok := imageOf(q, u, v)
		if e != api.OK || !ok {
			continue
		}
		r, _ := Compose(p, q)
		x, y, e1 := Apply(r, fracOf(u), fracOf(v))
		wantX, wantY, e2 := Apply(p, fracOf(midU), fracOf(midV))
		if e1 != e2 || x.String() != wantX.String() || y.String() != wantY.String() {
			t.Fatalf("Compose(%v, %v) takes %v, %v to %v, %v, %d, want %v, %v, %d", p.M, q.M, u, v, x, y, e1, wantX, wantY, e2)
		}
		applied++
	}
	if count[api.OK] < 500 || count[api.ErrRange] < 200 || applied < 500 {
		t.Errorf("there are %v results, %d of which were applied", count, applied)
	}
}

// P12.9.
func TestComposeIsAssociative(t *testing.T) {
	source := rand.New(rand.NewSource(13))
	for range 1000 {
		p, q, r := randomProj(source, 400), randomProj(source, 400), randomProj(source, 400)
		left, e1 := Compose(p, q)
		right, e2 := Compose(q, r)
		if e1 != api.OK || e2 != api.OK {
			t.Fatalf("Compose returns the errors %d and %d", e1, e2)
		}
		want, wantE := Compose(left, r)
		got, e := Compose(p, right)
		checkProj(t, "Compose in the other order", got, e, want, wantE)
	}
}

// P12.3: a number of the product, in each place and with each sign, is at its limit, or just beyond it.
func TestLimitsOfCompose(t *testing.T) {
	shift := proj(1, 0, 1<<29, 0, 1, 0, 0, 0, 1)
	for more, want := range map[int]api.Errno{-1: api.OK, 0: api.OK, 1: api.ErrRange} {
		other := proj(1, 0, 1<<29+more, 0, 1, 0, 0, 0, 1)
		for _, left := range turns() {
			for _, right := range turns() {
				p, q := turned(t, left, shift), turned(t, other, right)
				if e := checkCompose(t, p, q); e != want {
					t.Fatalf("Compose(%v, %v) returns the error %d, want %d", p.M, q.M, e, want)
				}
			}
		}
	}
}

// P12.3: products with numbers up to 3 * 2^60 before they are divided.
func TestGreatestProducts(t *testing.T) {
	most := 1 << 30
	p := proj(most, most, most, most, -most, most, most, most, -most)
	q := proj(most, most, -most, most, -most, most, most, most, most)
	if e := checkCompose(t, p, q); e != api.OK {
		t.Errorf("Compose returns the error %d", e)
	}
	q.M[4]++
	if e := checkCompose(t, p, q); e != api.ErrRange {
		t.Errorf("Compose returns the error %d, want ErrRange", e)
	}
}

// P12.4.
func TestSame(t *testing.T) {
	source := rand.New(rand.NewSource(14))
	check := func(p, q api.Proj, want bool) {
		t.Helper()
		if Same(p, q) != want || Same(q, p) != want {
			t.Fatalf("Same(%v, %v) is not %t", p.M, q.M, want)
		}
	}
	for range 300 {
		p := randomProj(source, 1<<10)
		check(p, p, true)
		first, second := p, p
		for i := range p.M {
			first.M[i] *= 6
			second.M[i] *= -9
		}
		check(p, first, true)
		check(first, second, true)
		first.M[source.Intn(9)]++
		check(p, first, false)
		check(p, randomProj(source, 1<<10), false)
	}
}

// P12.4: what is not valid is not the same as anything.
func TestSameOfInvalidProjections(t *testing.T) {
	flat, beyond := proj(1, 2, 3, 4, 5, 6, 7, 8, 9), proj(1<<31, 0, 0, 0, 1<<31, 0, 0, 0, 1<<31)
	list := []api.Proj{identity, flat, api.Proj{}, beyond, proj(1<<30, 0, 0, 0, 1<<30, 0, 0, 0, 1<<30)}
	for i, p := range list {
		for k, q := range list {
			if want := i%4 == 0 && k%4 == 0; Same(p, q) != want {
				t.Errorf("Same(%v, %v) = %t, want %t", p.M, q.M, !want, want)
			}
		}
	}
}
