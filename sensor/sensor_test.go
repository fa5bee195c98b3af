package sensor

import (
	"math"
	"math/big"
	"math/rand"
	"testing"

	"skymosaic/api"
	"skymosaic/frac"
	"skymosaic/ival"
)

// names are the monomials in the order of package api, by the letters of their factors.
var names = [20]string{"", "x", "y", "h", "xx", "xy", "xh", "yy", "yh", "hh",
	"xxx", "xxy", "xxh", "xyy", "xyh", "xhh", "yyy", "yyh", "yhh", "hhh"}

// parts are the polynomials of a model, by name, each with a function that returns where it is.
var parts = []struct {
	name string
	of   func(s *api.Sensor) *[20]int
}{
	{"RowNum", func(s *api.Sensor) *[20]int { return &s.RowNum }},
	{"RowDen", func(s *api.Sensor) *[20]int { return &s.RowDen }},
	{"ColNum", func(s *api.Sensor) *[20]int { return &s.ColNum }},
	{"ColDen", func(s *api.Sensor) *[20]int { return &s.ColDen }},
}

// term returns the polynomial with one monomial.
func term(n int, name string) (c [20]int) {
	for i, other := range names {
		if other == name {
			c[i] = n
			return c
		}
	}
	panic(name)
}

// exactly returns the value of a polynomial at a point.
func exactly(c [20]int, at [3]*big.Rat) *big.Rat {
	total := new(big.Rat)
	for i, name := range names {
		product := new(big.Rat).SetInt64(int64(c[i]))
		for _, letter := range name {
			product.Mul(product, at[map[rune]int{'x': 0, 'y': 1, 'h': 2}[letter]])
		}
		total.Add(total, product)
	}
	return total
}

// imageOf returns the row and the column of a point, and false if there are none.
func imageOf(s api.Sensor, at [3]*big.Rat) (row, col *big.Rat, ok bool) {
	below, other := exactly(s.RowDen, at), exactly(s.ColDen, at)
	if below.Sign() == 0 || other.Sign() == 0 {
		return nil, nil, false
	}
	return below.Quo(exactly(s.RowNum, at), below), other.Quo(exactly(s.ColNum, at), other), true
}

// power2 is 2^n + more.
func power2(n uint, more int64) *big.Int {
	b := new(big.Int).Lsh(big.NewInt(1), n)
	return b.Add(b, big.NewInt(more))
}

func integer(b *big.Int) *big.Rat {
	return new(big.Rat).SetInt(b)
}

// inverse is 1 / b.
func inverse(b *big.Int) *big.Rat {
	return new(big.Rat).SetFrac(big.NewInt(1), b)
}

func number(s string) frac.Frac {
	x, e := frac.Parse(s)
	if e != api.OK {
		panic(s)
	}
	return x
}

func fracOf(r *big.Rat) frac.Frac {
	return number(r.RatString())
}

func ratOf(x frac.Frac) *big.Rat {
	r, ok := new(big.Rat).SetString(x.String())
	if !ok {
		panic(x.String())
	}
	return r
}

// randomPoly has coefficients of all sizes up to most, some of which are 0.
func randomPoly(source *rand.Rand, most int) (c [20]int) {
	for i := range c {
		c[i] = source.Intn(source.Intn(most)+1) * (source.Intn(3) - 1)
		if source.Intn(20) == 0 {
			c[i] = []int{-most, most}[source.Intn(2)]
		}
	}
	return c
}

// randomModel is valid. Its polynomials have at most the degree degree, and coefficients up to most.
func randomModel(source *rand.Rand, degree, most int) (s api.Sensor) {
	for _, part := range parts {
		c := randomPoly(source, most)
		for i, name := range names {
			if len(name) > degree {
				c[i] = 0
			}
		}
		*part.of(&s) = c
	}
	for i := range s.Look {
		s.Look[i] = source.Intn(1<<31+1) - 1<<30
	}
	s.Look[2] = 1 + source.Intn(1<<30)
	for _, c := range []*[20]int{&s.RowDen, &s.ColDen} {
		if *c == [20]int{} {
			c[0] = 1
		}
	}
	return s
}

// randomRat has a numerator and a denominator of at most most bits.
func randomRat(source *rand.Rand, most int) *big.Rat {
	above := new(big.Int).Rand(source, power2(uint(source.Intn(most)+1), 0))
	below := new(big.Int).Rand(source, power2(uint(source.Intn(most)+1), 0))
	if below.Sign() == 0 || source.Intn(4) == 0 {
		below.SetInt64(1)
	}
	if source.Intn(2) == 0 {
		above.Neg(above)
	}
	return new(big.Rat).SetFrac(above, below)
}

func randomPoint(source *rand.Rand, most int) (at [3]*big.Rat) {
	for i := range at {
		at[i] = randomRat(source, most)
	}
	return at
}

// sample is the model of the chapter's examples.
func sample(t *testing.T) api.Sensor {
	t.Helper()
	s, e := Affine([4]int{10, 0, -1, 0}, [4]int{2, 1, 0, 1}, 2, [3]int{0, 0, 1})
	if e != api.OK {
		t.Fatalf("Affine returns the error %d", e)
	}
	return s
}

// plain is a model with row = y and column = x.
func plain() api.Sensor {
	one := term(1, "")
	return api.Sensor{RowNum: term(1, "y"), RowDen: one, ColNum: term(1, "x"), ColDen: one, Look: [3]int{0, 0, 1}}
}

// checkProject checks a row and a column (P9.2), and tells whether there are some.
func checkProject(t *testing.T, s api.Sensor, at [3]*big.Rat) bool {
	t.Helper()
	row, col, e := Project(s, fracOf(at[0]), fracOf(at[1]), fracOf(at[2]))
	wantRow, wantCol, ok := imageOf(s, at)
	if !ok {
		if e != api.ErrZero || frac.Sign(row) != 0 || frac.Sign(col) != 0 {
			t.Fatalf("Project(%v, %.99v) = %.99v, %.99v, %d, want 0, 0, ErrZero", s, at, row, col, e)
		}
		return false
	}
	if e != api.OK || row.String() != wantRow.RatString() || col.String() != wantCol.RatString() {
		t.Fatalf("Project(%v, %.99v) = %.99v, %.99v, %d, want %.99v, %.99v, OK", s, at, row, col, e, wantRow, wantCol)
	}
	return true
}

func TestExamplesOfTheChapter(t *testing.T) {
	s := sample(t)
	row, col, e := Project(s, number("4"), number("6"), number("2"))
	if row.String() != "2" || col.String() != "4" || e != api.OK {
		t.Errorf("Project = %v, %v, %d, want 2, 4, OK", row, col, e)
	}
	x, y, e := Locate(s, row, col, 2)
	if x.String() != "4" || y.String() != "6" || e != api.OK {
		t.Errorf("Locate = %v, %v, %d, want 4, 6, OK", x, y, e)
	}
	s, e = Moved(s, [2]int{128, -256})
	if e != api.OK {
		t.Fatalf("Moved returns the error %d", e)
	}
	row, col, e = Project(s, number("4"), number("6"), number("2"))
	if row.String() != "5/2" || col.String() != "3" || e != api.OK {
		t.Errorf("after Moved, Project = %v, %v, %d, want 5/2, 3, OK", row, col, e)
	}
}

// P9.1: coefficients and numbers of Look at their limits and just beyond them.
func TestLimitsOfModels(t *testing.T) {
	check := func(s api.Sensor, want api.Errno) {
		t.Helper()
		if e := Valid(s); e != want {
			t.Errorf("Valid(%v) = %d, want %d", s, e, want)
		}
	}
	for _, n := range []int{1 << 30, -1 << 30, 1<<30 + 1, -1<<30 - 1, math.MaxInt, math.MinInt} {
		want := api.OK
		if n > 1<<30 || n < -1<<30 {
			want = api.ErrRange
		}
		for _, part := range parts {
			for i := range names {
				s := plain()
				part.of(&s)[i] = n
				check(s, want)
			}
		}
		for i := range 3 {
			s := plain()
			s.Look[i] = n
			if i == 2 && n == -1<<30 {
				check(s, api.ErrFlat)
				continue
			}
			check(s, want)
		}
	}
}

// P9.1: directions that do not lead upward, and polynomials of zeros.
func TestFlatModelsAndZeros(t *testing.T) {
	for n, want := range map[int]api.Errno{1: api.OK, 2: api.OK, 0: api.ErrFlat, -1: api.ErrFlat, -1 << 30: api.ErrFlat} {
		s := plain()
		s.Look[2] = n
		if e := Valid(s); e != want {
			t.Errorf("Valid with the direction %v = %d, want %d", s.Look, e, want)
		}
	}
	for _, part := range parts {
		s := plain()
		*part.of(&s) = [20]int{}
		want := api.OK
		if part.name == "RowDen" || part.name == "ColDen" {
			want = api.ErrZero
		}
		if e := Valid(s); e != want {
			t.Errorf("Valid with zeros in %s = %d, want %d", part.name, e, want)
		}
		for _, name := range names {
			for _, n := range []int{1, -1} {
				*part.of(&s) = term(n, name)
				if e := Valid(s); e != api.OK {
					t.Errorf("Valid with %d %q as %s = %d, want OK", n, name, part.name, e)
				}
			}
		}
	}
	if e := Valid(api.Sensor{}); e != api.ErrFlat {
		t.Errorf("Valid of zeros = %d, want ErrFlat", e)
	}
}

// invalid are models with several mistakes, and the errors of these.
func invalid() (models []api.Sensor, errors []api.Errno) {
	add := func(s api.Sensor, e api.Errno) {
		models, errors = append(models, s), append(errors, e)
	}
	none := [20]int{}
	for _, flat := range []int{1, 0, -5} {
		for _, cleared := range [][2]bool{{}, {true, false}, {false, true}, {true, true}} {
			s := plain()
			s.RowNum[19], s.ColNum[10], s.Look[2] = 3, 4, flat
			if cleared[0] {
				s.RowDen = none
			}
			if cleared[1] {
				s.ColDen = none
			}
			switch {
			case flat < 1:
				add(s, api.ErrFlat)
			case cleared != [2]bool{}:
				add(s, api.ErrZero)
			}
			for _, part := range parts {
				other := s
				part.of(&other)[7] = -1<<30 - 1
				add(other, api.ErrRange)
			}
			s.Look[1] = 1<<30 + 1
			add(s, api.ErrRange)
		}
	}
	return models, errors
}

// P9.1: the errors of models have an order, and come before all other ones.
func TestErrorsOfModelsComeFirst(t *testing.T) {
	long := fracOf(integer(power2(1000, 0)))
	huge, e := ival.Of(fracOf(integer(power2(8159, 0))))
	if e != api.OK {
		t.Fatal(e)
	}
	models, errors := invalid()
	for i, s := range models {
		want := errors[i]
		if e := Valid(s); e != want {
			t.Errorf("Valid(%v) = %d, want %d", s, e, want)
		}
		if row, col, e := Project(s, long, long, long); e != want || row.String() != "0" || col.String() != "0" {
			t.Errorf("Project(%v) = %v, %v, %d, want 0, 0, %d", s, row, col, e, want)
		}
		if row, col, e := Enclose(s, huge, huge, huge); e != want || row.String() != "[0, 0]" || col.String() != "[0, 0]" {
			t.Errorf("Enclose(%v) = %v, %v, %d, want [0, 0], [0, 0], %d", s, row, col, e, want)
		}
		if x, y, e := Locate(s, long, long, 1); e != want || x.String() != "0" || y.String() != "0" {
			t.Errorf("Locate(%v) = %v, %v, %d, want 0, 0, %d", s, x, y, e, want)
		}
		if m, e := Moved(s, [2]int{1 << 21, 1 << 21}); e != want || m != (api.Sensor{}) {
			t.Errorf("Moved(%v) = %v, %d, want zeros, %d", s, m, e, want)
		}
	}
}

// P9.1: the points, boxes and shifts are such that the functions would have results without the mistakes.
func TestInvalidModelsWithResults(t *testing.T) {
	models, errors := invalid()
	for i, s := range models {
		want, at := errors[i], number("1/2")
		if row, col, e := Project(s, at, at, at); e != want || row.String() != "0" || col.String() != "0" {
			t.Errorf("Project(%v) = %v, %v, %d, want 0, 0, %d", s, row, col, e, want)
		}
		if row, col, e := Enclose(s, ival.Ival{}, ival.Ival{}, ival.Ival{}); e != want || row.String() != "[0, 0]" || col.String() != "[0, 0]" {
			t.Errorf("Enclose(%v) = %v, %v, %d, want [0, 0], [0, 0], %d", s, row, col, e, want)
		}
		s.RowNum[19], s.ColNum[10] = 0, 0
		if x, y, e := Locate(s, at, at, 1); e != want || x.String() != "0" || y.String() != "0" {
			t.Errorf("Locate(%v) = %v, %v, %d, want 0, 0, %d", s, x, y, e, want)
		}
		if m, e := Moved(s, [2]int{}); e != want || m != (api.Sensor{}) {
			t.Errorf("Moved(%v) = %v, %d, want zeros, %d", s, m, e, want)
		}
	}
}

// P9.2.
func TestProject(t *testing.T) {
	source := rand.New(rand.NewSource(1))
	for _, digits := range []int{4, 20, 64} {
		for range 1000 {
			checkProject(t, randomModel(source, 3, 1<<30), randomPoint(source, digits))
			checkProject(t, randomModel(source, source.Intn(4), 5), randomPoint(source, digits))
		}
	}
	for range 10 {
		checkProject(t, randomModel(source, 3, 1<<30), randomPoint(source, 1000))
	}
}

// P9.2: the value of each denominator alone is 0, then that of both, then that of none.
func TestZerosOfDenominators(t *testing.T) {
	half, one := big.NewRat(1, 2), big.NewRat(1, 1)
	s := plain()
	s.RowDen, s.ColDen = [20]int{0: -1, 1: 2}, [20]int{0: -1, 3: 2}
	for i, at := range [][3]*big.Rat{{half, one, one}, {one, half, half}, {half, half, half}, {one, half, one}} {
		if ok := checkProject(t, s, at); ok != (i == 3) {
			t.Errorf("Project at %v has a result: %t", at, ok)
		}
	}
}

// P9.2: coordinates with too many digits are found ahead of denominators that are 0 there.
func TestLimitOfDigitsOfPoints(t *testing.T) {
	zeros := plain()
	zeros.RowDen, zeros.ColDen = [20]int{1: 1, 2: -1}, [20]int{2: 1, 3: -1}
	for _, s := range []api.Sensor{plain(), zeros} {
		for axis := range 3 {
			for _, r := range []*big.Rat{integer(power2(1000, 0)), inverse(power2(1000, 0)), integer(power2(9000, 0))} {
				at := [3]frac.Frac{number("1"), number("1"), number("1")}
				at[axis] = fracOf(r)
				if row, col, e := Project(s, at[0], at[1], at[2]); e != api.ErrLimit || row.String() != "0" || col.String() != "0" {
					t.Errorf("Project at %.50v in place %d = %v, %v, %d, want 0, 0, ErrLimit", r, axis, row, col, e)
				}
			}
		}
	}
}

// P9.2: numerator and denominator have a common denominator, so that no quotient gets out of range.
func TestGreatestQuotients(t *testing.T) {
	s := plain()
	for i := range names {
		s.RowNum[i], s.RowDen[i], s.ColNum[i], s.ColDen[i] = 1<<30, 1<<30-i, -1<<30+2*i, -1<<30+3*i
	}
	at := [3]*big.Rat{}
	for i, more := range []int64{-3, -5, -9} {
		at[i] = new(big.Rat).SetFrac(power2(1000, -1), power2(1000, more))
	}
	if !checkProject(t, s, at) {
		t.Error("Project has no result")
	}
}

// P9.4.
func TestAffine(t *testing.T) {
	source := rand.New(rand.NewSource(2))
	some := func() int { return source.Intn(1<<31+1) - 1<<30 }
	for range 500 {
		a, b := [4]int{some(), some(), some(), some()}, [4]int{some(), some(), some(), some()}
		d, look := some(), [3]int{some(), some(), 1 + source.Intn(1<<30)}
		s, e := Affine(a, b, d, look)
		want := api.Sensor{
			RowNum: [20]int{a[0], a[1], a[2], a[3]}, RowDen: [20]int{d},
			ColNum: [20]int{b[0], b[1], b[2], b[3]}, ColDen: [20]int{d}, Look: look,
		}
		if s != want || e != api.OK {
			t.Fatalf("Affine(%v, %v, %d, %v) = %v, %d, want %v, OK", a, b, d, look, s, e, want)
		}
		at := randomPoint(source, 30)
		row, col, e := Project(s, fracOf(at[0]), fracOf(at[1]), fracOf(at[2]))
		for i, n := range [][4]int{a, b} {
			total := big.NewRat(int64(n[0]), 1)
			for axis := range at {
				total.Add(total, new(big.Rat).Mul(big.NewRat(int64(n[axis+1]), 1), at[axis]))
			}
			total.Quo(total, big.NewRat(int64(d), 1))
			if got := []frac.Frac{row, col}[i]; e != api.OK || ratOf(got).Cmp(total) != 0 {
				t.Fatalf("Project of Affine(%v, %v, %d) at %v is %v, %v, %d, want %v in place %d", a, b, d, at, row, col, e, total, i)
			}
		}
	}
}

// P9.4.
func TestErrorsOfAffine(t *testing.T) {
	up := [3]int{0, 0, 1}
	for _, v := range []struct {
		a, b [4]int
		d    int
		look [3]int
		want api.Errno
	}{
		{[4]int{}, [4]int{}, 1, up, api.OK},
		{[4]int{1 << 30}, [4]int{-1 << 30}, -1 << 30, up, api.OK},
		{[4]int{1<<30 + 1}, [4]int{}, 0, [3]int{}, api.ErrRange},
		{[4]int{3: -1<<30 - 1}, [4]int{}, 1, up, api.ErrRange},
		{[4]int{}, [4]int{2: 1<<30 + 1}, 1, up, api.ErrRange},
		{[4]int{}, [4]int{}, math.MinInt, up, api.ErrRange},
		{[4]int{}, [4]int{}, 0, [3]int{1<<30 + 1, 0, 0}, api.ErrRange},
		{[4]int{}, [4]int{}, 0, [3]int{}, api.ErrFlat},
		{[4]int{1, 2, 3, 4}, [4]int{5, 6, 7, 8}, 9, [3]int{1, 1, -1}, api.ErrFlat},
		{[4]int{1, 2, 3, 4}, [4]int{5, 6, 7, 8}, 0, up, api.ErrZero},
	} {
		s, e := Affine(v.a, v.b, v.d, v.look)
		if e != v.want || e != api.OK && s != (api.Sensor{}) {
			t.Errorf("Affine(%v, %v, %d, %v) = %v, %d, want the error %d", v.a, v.b, v.d, v.look, s, e, v.want)
		}
	}
}
