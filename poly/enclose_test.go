package poly

import (
	"math/big"
	"math/rand"
	"testing"

	"skymosaic/api"
	"skymosaic/frac"
	"skymosaic/ival"
)

// steps is what P8.3 says, step by step.
func steps(c [20]int, at [3]ival.Ival) (total ival.Ival, e api.Errno) {
	isFirst := true
	for i, name := range names {
		if c[i] == 0 {
			continue
		}
		coefficient, _ := frac.Of(c[i], 1)
		product, e := ival.Of(coefficient)
		for _, letter := range name {
			if e == api.OK {
				product, e = ival.Mul(product, at[axisOf(letter)])
			}
		}
		switch {
		case e != api.OK:
		case isFirst:
			total, isFirst = product, false
		default:
			total, e = ival.Add(total, product)
		}
		if e != api.OK {
			return ival.Ival{}, e
		}
	}
	return total, api.OK
}

func checkEnclose(t *testing.T, c [20]int, at [3]ival.Ival) api.Errno {
	t.Helper()
	want, first := steps(c, at)
	got, e := Enclose(c, at[0], at[1], at[2])
	if e != first || got.String() != want.String() {
		t.Fatalf("Enclose(%v, %.200v) = %.200v, %d, want %.200v, %d", c, at, got, e, want, first)
	}
	return e
}

// randomIntervals returns intervals, and a point in them.
func randomIntervals(t *testing.T, source *rand.Rand, most int) (at [3]ival.Ival, inside [3]*big.Rat) {
	t.Helper()
	for axis := range at {
		lo, width := randomRat(source, most), randomRat(source, most)
		if source.Intn(5) == 0 {
			width.SetInt64(0)
		}
		hi := new(big.Rat).Add(lo, width)
		at[axis] = interval(t, lo, hi)
		part := big.NewRat(int64(source.Intn(9)), 8)
		inside[axis] = new(big.Rat).Add(lo, part.Mul(part, width))
	}
	return at, inside
}

// P8.3 and P8.7.
func TestEnclose(t *testing.T) {
	source := rand.New(rand.NewSource(17))
	for _, most := range []int{1 << 30, 50} {
		for _, digits := range []int{5, 40, 300} {
			for range 200 {
				c := randomPoly(source, most)
				at, inside := randomIntervals(t, source, digits)
				checkEnclose(t, c, at)
				v, e := Enclose(c, at[0], at[1], at[2])
				if exact := exactly(c, inside); e != api.OK || !ival.Has(v, fracOf(exact)) {
					t.Fatalf("Enclose(%v, %v) = %v, %d, without the value %v at %v", c, at, v, e, exact, inside)
				}
			}
		}
	}
}

// P8.3: where products are rounded, their order is visible.
func TestOrderOfProducts(t *testing.T) {
	small, great := point(t, big.NewRat(1, 3)), point(t, big.NewRat(1<<40, 3))
	for i := range names {
		for _, c := range [][20]int{one(i, 1), one(i, 1<<30), one(i, -12345)} {
			for _, at := range [][3]ival.Ival{
				{small, small, small}, {great, small, small}, {small, great, small}, {small, small, great},
				{small, great, great}, {great, small, great}, {great, great, small},
			} {
				checkEnclose(t, c, at)
			}
		}
	}
	tiny := point(t, new(big.Rat).SetFrac(big.NewInt(1), power2(31, 0)))
	for _, v := range []struct {
		name, want string
		at         [3]ival.Ival
	}{
		{"xy", "[0, 1/2048]", [3]ival.Ival{point(t, big.NewRat(1, 5<<30)), point(t, big.NewRat(1<<21, 1)), tiny}},
		{"xyh", "[1/2, 1/2]", [3]ival.Ival{tiny, point(t, big.NewRat(1<<40, 1)), point(t, big.NewRat(1, 1<<10))}},
		{"xxy", "[0, 256]", [3]ival.Ival{tiny, point(t, big.NewRat(1<<40, 1)), tiny}},
	} {
		got, e := Enclose(one(indexOf(v.name), 1), v.at[0], v.at[1], v.at[2])
		if got.String() != v.want || e != api.OK {
			t.Errorf("Enclose of %s at %v = %v, %d, want %s, OK", v.name, v.at, got, e, v.want)
		}
	}
}

// P8.3: a square is the product of an interval with itself, and coefficients that are 0 change nothing.
func TestKnownEnclosures(t *testing.T) {
	wide := interval(t, big.NewRat(-1, 1), big.NewRat(2, 1))
	huge := point(t, integer(power2(8159, 0)))
	c := [20]int{}
	for _, v := range []struct {
		name string
		n    int
		want string
	}{{"xx", 1, "[-2, 4]"}, {"x", 3, "[-5, 10]"}, {"", -7, "[-12, 3]"}, {"hhh", -1, "[-20, 7]"}, {"xy", 0, "[-20, 7]"}} {
		c[indexOf(v.name)] = v.n
		if got, e := Enclose(c, wide, huge, wide); got.String() != v.want || e != api.OK {
			t.Errorf("Enclose(%v) = %v, %d, want %s, OK", c, got, e, v.want)
		}
	}
	for _, at := range []ival.Ival{{}, wide, huge} {
		if got, e := Enclose([20]int{}, at, at, at); got.String() != "[0, 0]" || e != api.OK {
			t.Errorf("Enclose of zeros = %v, %d, want [0, 0], OK", got, e)
		}
	}
}

// P8.3: products and sums beyond the range of intervals, in each monomial.
func TestLimitsOfEnclose(t *testing.T) {
	half, third := point(t, integer(power2(4079, 0))), point(t, integer(power2(2719, 0)))
	huge, nearly := point(t, integer(power2(8159, 0))), point(t, integer(power2(8158, 0)))
	for i, name := range names {
		if name == "" {
			continue
		}
		at := [4]ival.Ival{1: huge, 2: half, 3: third}[len(name)]
		limit := 1 << len(name)
		for n, want := range map[int]api.Errno{limit - 1: api.OK, 1 - limit: api.OK, limit: api.ErrLimit, -limit: api.ErrLimit} {
			if e := checkEnclose(t, one(i, n), [3]ival.Ival{at, at, at}); e != want {
				t.Errorf("Enclose of %d %s returns the error %d, want %d", n, name, e, want)
			}
			c := one(i, n)
			c[i-1]++
			checkEnclose(t, c, [3]ival.Ival{at, at, at})
		}
	}
	for _, v := range []struct {
		c    [20]int
		x    ival.Ival
		want api.Errno
	}{
		{one(1, 1), huge, api.OK}, {one(1, 2), huge, api.ErrLimit}, {one(4, 1), huge, api.ErrLimit}, {one(10, 1), huge, api.ErrLimit},
		{one(1, 3), nearly, api.OK}, {one(1, 4), nearly, api.ErrLimit},
		{[20]int{0: 1, 1: 1, 2: 1}, nearly, api.OK}, {[20]int{1: 2, 2: 2}, nearly, api.ErrLimit}, {[20]int{1: 2, 3: 2}, nearly, api.ErrLimit},
		{[20]int{1: 2, 2: 2, 3: -2}, nearly, api.ErrLimit}, {[20]int{1: 2, 2: -2, 3: 2}, nearly, api.OK},
		{[20]int{1: 2, 2: -4}, nearly, api.ErrLimit}, {[20]int{19: 1}, nearly, api.ErrLimit},
	} {
		if e := checkEnclose(t, v.c, [3]ival.Ival{v.x, v.x, v.x}); e != v.want {
			t.Errorf("Enclose(%v) returns the error %d, want %d", v.c, e, v.want)
		}
	}
}
