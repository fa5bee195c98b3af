package proj

import (
	"math/big"
	"math/rand"
	"testing"

	"skymosaic/api"
	"skymosaic/frac"
	"skymosaic/ival"
)

func interval(t *testing.T, lo, hi *big.Rat) ival.Ival {
	t.Helper()
	x, e := ival.Make(fracOf(lo), fracOf(hi))
	if e != api.OK {
		t.Fatalf("Make(%v, %v) returns the error %d", lo, hi, e)
	}
	return x
}

// greatest is an interval whose upper end is next to the limit of package ival.
func greatest(t *testing.T) ival.Ival {
	t.Helper()
	return interval(t, new(big.Rat), integer(power2(8160, -1)))
}

// steps is what P12.5 says, step by step.
func steps(p api.Proj, u, v ival.Ival) (x, y ival.Ival, e api.Errno) {
	sums := []ival.Ival{}
	for i := range 3 {
		of := []ival.Ival{}
		for _, n := range p.M[3*i : 3*i+3] {
			whole, _ := frac.Of(n, 1)
			point, _ := ival.Of(whole)
			of = append(of, point)
		}
		au, e := ival.Mul(of[0], u)
		if e != api.OK {
			return ival.Ival{}, ival.Ival{}, e
		}
		bv, e := ival.Mul(of[1], v)
		if e != api.OK {
			return ival.Ival{}, ival.Ival{}, e
		}
		both, e := ival.Add(au, bv)
		if e != api.OK {
			return ival.Ival{}, ival.Ival{}, e
		}
		all, e := ival.Add(both, of[2])
		if e != api.OK {
			return ival.Ival{}, ival.Ival{}, e
		}
		sums = append(sums, all)
	}
	if x, e = ival.Div(sums[0], sums[2]); e != api.OK {
		return ival.Ival{}, ival.Ival{}, e
	}
	if y, e = ival.Div(sums[1], sums[2]); e != api.OK {
		return ival.Ival{}, ival.Ival{}, e
	}
	return x, y, api.OK
}

// checkEnclose checks the intervals of a valid projection (P12.5), and returns the error.
func checkEnclose(t *testing.T, p api.Proj, u, v ival.Ival) api.Errno {
	t.Helper()
	wantX, wantY, want := steps(p, u, v)
	x, y, e := Enclose(p, u, v)
	if e != want || x.String() != wantX.String() || y.String() != wantY.String() {
		t.Fatalf("Enclose(%v, %.99v, %.99v) = %.99v, %.99v, %d, want %.99v, %.99v, %d", p.M, u, v, x, y, e, wantX, wantY, want)
	}
	return e
}

// P12.5 and P12.10.
func TestEnclose(t *testing.T) {
	source := rand.New(rand.NewSource(30))
	for _, most := range []*big.Rat{new(big.Rat), big.NewRat(1, 1<<40), big.NewRat(1, 1<<20), big.NewRat(1, 8), big.NewRat(5, 1)} {
		inside := 0
		for range 500 {
			p := randomProj(source, []int{9, 100, 1 << 30}[source.Intn(3)])
			box, at := [2]ival.Ival{}, [2]*big.Rat{}
			for i := range box {
				lo, width := randomRat(source, []int{5, 12, 40}[source.Intn(3)]), new(big.Rat).Mul(most, big.NewRat(int64(source.Intn(9)), 8))
				box[i] = interval(t, lo, new(big.Rat).Add(lo, width))
				at[i] = new(big.Rat).Mul(big.NewRat(int64(source.Intn(9)), 8), width)
				at[i].Add(at[i], lo)
			}
			if e := checkEnclose(t, p, box[0], box[1]); e != api.OK {
				continue
			}
			x, y, _ := Enclose(p, box[0], box[1])
			atX, atY, e := Apply(p, fracOf(at[0]), fracOf(at[1]))
			if e != api.OK || !ival.Has(x, atX) || !ival.Has(y, atY) {
				t.Fatalf("Enclose(%v, %v, %v) = %v, %v, without the image of %v, which is %v, %v, %d", p.M, box[0], box[1], x, y, at, atX, atY, e)
			}
			inside++
		}
		if inside < 150 {
			t.Errorf("only %d of 500 points were compared for the width %v", inside, most)
		}
	}
}

// P12.5: intervals that can be computed by heart.
func TestEncloseByHeart(t *testing.T) {
	u, v := interval(t, big.NewRat(1, 2), big.NewRat(3, 2)), interval(t, big.NewRat(-1, 1), big.NewRat(1, 1))
	for _, w := range []struct {
		p    api.Proj
		x, y string
		want api.Errno
	}{
		{sample, "[4, 6]", "[3, 7]", api.OK},
		{proj(0, 1, 0, 1, 0, 0, 0, 0, 2), "[-1/2, 1/2]", "[1/4, 3/4]", api.OK},
		{proj(1, 0, 0, 0, 1, 0, 0, 1, 3), "[1/8, 3/4]", "[-1/2, 1/2]", api.OK},
		{proj(1, 0, 0, 0, 1, 0, 0, -1, 1), "[0, 0]", "[0, 0]", api.ErrZero},
		{proj(1, 0, 0, 0, 1, 0, 2, 0, -1), "[0, 0]", "[0, 0]", api.ErrZero},
		{proj(0, 0, 1, 0, 1, 0, 1, 0, 0), "[1431655765/2147483648, 2]", "[-2, 2]", api.OK},
	} {
		x, y, e := Enclose(w.p, u, v)
		if x.String() != w.x || y.String() != w.y || e != w.want {
			t.Errorf("Enclose(%v) = %v, %v, %d, want %s, %s, %d", w.p.M, x, y, e, w.x, w.y, w.want)
		}
	}
}

// P12.5: the products and sums of each row, and each quotient, get out of range, ahead of a division by 0 or not.
func TestLimitsOfEnclose(t *testing.T) {
	great := greatest(t)
	one := interval(t, big.NewRat(1, 1), big.NewRat(1, 1))
	for _, v := range []struct {
		p    api.Proj
		u, v ival.Ival
		want api.Errno
	}{
		{identity, great, great, api.OK},
		{proj(2, 0, 0, 0, 1, 0, 0, 0, 1), great, one, api.ErrLimit},
		{proj(0, 2, 0, 1, 0, 0, 0, 0, 1), one, great, api.ErrLimit},
		{proj(1, 1, 0, 0, 1, 0, 0, 0, 1), great, great, api.ErrLimit},
		{proj(1, 1, 0, 0, 1, 0, 0, 0, 1), great, ival.Ival{}, api.OK},
		{proj(1, 0, 1, 0, 1, 0, 0, 0, 1), great, one, api.ErrLimit},
		{proj(1, 0, -1, 0, 1, 0, 0, 0, 1), great, one, api.OK},
		{proj(1, 0, 0, 0, 2, 0, 0, 0, 1), one, great, api.ErrLimit},
		{proj(1, 0, 0, 1, 1, 0, 0, 0, 1), great, great, api.ErrLimit},
		{proj(1, 0, 0, 0, 1, 1, 0, 0, 1), one, great, api.ErrLimit},
		{proj(0, 0, 1, 0, 1, 0, 2, 0, 0), great, one, api.ErrLimit},
		{proj(1, 0, 0, 0, 0, 1, 0, 2, 0), one, great, api.ErrLimit},
		{proj(1, 0, 0, 0, 0, 1, 1, 1, 0), great, great, api.ErrLimit},
		{proj(0, 0, 1, 0, 1, 0, 1, 0, 1), great, one, api.ErrLimit},
		{proj(0, 0, 1, 0, 1, 0, 1, 0, 0), great, one, api.ErrZero},
		{proj(2, 0, 0, 0, 1, 0, 0, 1, -1), great, one, api.ErrLimit},
		{proj(1, 0, 0, 2, 1, 0, 0, 1, -1), great, one, api.ErrLimit},
		{proj(1, 0, 0, 0, 1, 0, 0, 1, -1), great, one, api.ErrZero},
	} {
		if e := checkEnclose(t, v.p, v.u, v.v); e != v.want {
			t.Errorf("Enclose(%v) returns the error %d, want %d", v.p.M, e, v.want)
		}
	}
}

// P12.5: the quotients get out of range, that of the first row, of the second one, or of both.
func TestLimitsOfQuotients(t *testing.T) {
	great, part := greatest(t), interval(t, big.NewRat(1, 1<<32), big.NewRat(1, 1))
	for _, v := range []struct {
		p    api.Proj
		u, v ival.Ival
		want api.Errno
	}{
		{proj(1, 0, 0, 0, 0, 1, 0, 1, 0), great, part, api.ErrLimit},
		{proj(0, 0, 1, 1, 0, 0, 0, 1, 0), great, part, api.ErrLimit},
		{proj(1, 0, 0, 1, 0, -1, 0, 1, 0), great, part, api.ErrLimit},
		{proj(0, 1, 0, 0, 0, 1, 1, 0, 0), part, great, api.ErrLimit},
		{proj(0, 0, 1, 0, 1, 0, 1, 0, 0), part, great, api.ErrLimit},
		{proj(0, 0, 1, 0, 1, 0, 1, 0, 0), part, part, api.OK},
		{proj(0, 0, 1, 0, 1, 0, -1, 0, 0), part, part, api.OK},
	} {
		if e := checkEnclose(t, v.p, v.u, v.v); e != v.want {
			t.Errorf("Enclose(%v) returns the error %d, want %d", v.p.M, e, v.want)
		}
	}
}
