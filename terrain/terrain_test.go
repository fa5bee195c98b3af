package terrain

import (
	"math"
	"math/big"
	"math/rand"
	"slices"
	"testing"

	"skymosaic/api"
	"skymosaic/frac"
	"skymosaic/ival"
)

// power2 is 2^n + more.
func power2(n uint, more int64) *big.Int {
	b := new(big.Int).Lsh(big.NewInt(1), n)
	return b.Add(b, big.NewInt(more))
}

func integer(b *big.Int) *big.Rat {
	return new(big.Rat).SetInt(b)
}

func ratio(p, q *big.Int) *big.Rat {
	return new(big.Rat).SetFrac(p, q)
}

func wholeRat(n int) *big.Rat {
	return new(big.Rat).SetInt64(int64(n))
}

func plus(a, b *big.Rat) *big.Rat {
	return new(big.Rat).Add(a, b)
}

func minus(a, b *big.Rat) *big.Rat {
	return new(big.Rat).Sub(a, b)
}

func times(a, b *big.Rat) *big.Rat {
	return new(big.Rat).Mul(a, b)
}

func number(s string) frac.Frac {
	x, e := frac.Parse(s)
	if e != api.OK {
		panic(s)
	}
	return x
}

func fracOf(r *big.Rat) frac.Frac {
	return number(r.RatString())
}

func ratOf(x frac.Frac) *big.Rat {
	r, ok := new(big.Rat).SetString(x.String())
	if !ok {
		panic(x.String())
	}
	return r
}

// sample is the terrain of the chapter's examples.
func sample() api.Terrain {
	return api.Terrain{Step: 10, Cols: 2, Rows: 2, Heights: []int{0, 10, 20, 40}}
}

// plain is a valid terrain whose numbers differ, as do its heights.
func plain() api.Terrain {
	return api.Terrain{X: -7, Y: 5, Step: 6, Cols: 4, Rows: 3, Heights: []int{3, -1, 4, 15, -92, 65, 35, -89, 79, 32, -38, 46}}
}

// sized is a terrain at (0, 0) with the step 1 and the height 0.
func sized(cols, rows int) api.Terrain {
	return api.Terrain{Step: 1, Cols: cols, Rows: rows, Heights: make([]int, cols*rows)}
}

// randomTerrain is valid.
func randomTerrain(source *rand.Rand) api.Terrain {
	t := api.Terrain{Step: 1 + source.Intn(1+source.Intn(1<<16)), Cols: 2 + source.Intn(5), Rows: 2 + source.Intn(5)}
	t.X = -1<<20 + source.Intn(1<<21-(t.Cols-1)*t.Step+1)
	t.Y = -1<<20 + source.Intn(1<<21-(t.Rows-1)*t.Step+1)
	if source.Intn(2) == 0 {
		t.X, t.Y = source.Intn(99)-50, source.Intn(99)-50
	}
	most := 1 + source.Intn(1<<14)
	for range t.Cols * t.Rows {
		t.Heights = append(t.Heights, source.Intn(2*most+1)-most)
	}
	return t
}

// column and row are the coordinates of columns and rows of nodes.
func column(t api.Terrain, i int) *big.Rat {
	return wholeRat(t.X + i*t.Step)
}

func row(t api.Terrain, j int) *big.Rat {
	return wholeRat(t.Y + j*t.Step)
}

// facetAlong returns the number of the facet to which a coordinate belongs, out of the nodes in one direction: it is that
// of the last node that is not beyond the coordinate, apart from the last one of all; and false outside of the nodes.
func facetAlong(x *big.Rat, nodes int, at func(int) *big.Rat) (int, bool) {
	if x.Cmp(at(0)) < 0 || x.Cmp(at(nodes-1)) > 0 {
		return 0, false
	}
	facet := 0
	for i := range nodes - 1 {
		if at(i).Cmp(x) <= 0 {
			facet = i
		}
	}
	return facet, true
}

// facetAt returns the facet to which a point belongs, and false outside of the domain.
func facetAt(t api.Terrain, x, y *big.Rat) (int, int, bool) {
	i, isIn := facetAlong(x, t.Cols, func(i int) *big.Rat { return column(t, i) })
	j, isBeside := facetAlong(y, t.Rows, func(j int) *big.Rat { return row(t, j) })
	return i, j, isIn && isBeside
}

// node returns the height of a node.
func node(t api.Terrain, i, j int) *big.Rat {
	return wholeRat(t.Heights[j*t.Cols+i])
}

// heightIn returns the height of a point, by the nodes of a facet: each one counts as much as the area of the rectangle
// between the point and the node opposite.
func heightIn(t api.Terrain, i, j int, x, y *big.Rat) *big.Rat {
	total := new(big.Rat)
	for k := range 4 {
		across, down := k%2, k/2
		width, depth := minus(x, column(t, i+1-across)), minus(y, row(t, j+1-down))
		area := times(width.Abs(width), depth.Abs(depth))
		total = plus(total, times(area, node(t, i+across, j+down)))
	}
	return total.Quo(total, wholeRat(t.Step*t.Step))
}

// formValue returns the height of a point by the form of a facet.
func formValue(t *testing.T, ground api.Terrain, i, j int, x, y *big.Rat) *big.Rat {
	t.Helper()
	f, e := Form(ground, i, j)
	if e != api.OK {
		t.Fatalf("Form(%v, %d, %d) returns the error %d", ground, i, j, e)
	}
	step := wholeRat(ground.Step)
	p := minus(x, column(ground, i))
	q := minus(y, row(ground, j))
	p.Quo(p, step)
	q.Quo(q, step)
	total := plus(wholeRat(f[0]), times(wholeRat(f[1]), p))
	return plus(total, plus(times(wholeRat(f[2]), q), times(wholeRat(f[3]), times(p, q))))
}

// randomInside is a point of the domain, often on borders, with coordinates of all sizes.
func randomInside(source *rand.Rand, t api.Terrain) (x, y *big.Rat) {
	along := func(nodes int) *big.Rat {
		parts := new(big.Int).Rand(source, power2(uint(1+source.Intn(60)), 0))
		parts.Add(parts, big.NewInt(1))
		part := ratio(new(big.Int).Rand(source, new(big.Int).Add(parts, big.NewInt(1))), parts)
		if source.Intn(4) == 0 {
			return wholeRat(source.Intn(nodes) * t.Step)
		}
		return times(part, wholeRat((nodes-1)*t.Step))
	}
	return plus(column(t, 0), along(t.Cols)), plus(row(t, 0), along(t.Rows))
}

// checkPoint checks the facet and the height of a point with few digits (P10.2), and tells whether it is in the domain.
func checkPoint(t *testing.T, ground api.Terrain, x, y *big.Rat) bool {
	t.Helper()
	height, e1 := Height(ground, fracOf(x), fracOf(y))
	i, j, e2 := Facet(ground, fracOf(x), fracOf(y))
	wantI, wantJ, ok := facetAt(ground, x, y)
	if !ok {
		if e1 != api.ErrOutside || height.String() != "0" {
			t.Fatalf("Height(%v, %.99v, %.99v) = %.99v, %d, want 0, ErrOutside", ground, x, y, height, e1)
		}
		if e2 != api.ErrOutside || i != 0 || j != 0 {
			t.Fatalf("Facet(%v, %.99v, %.99v) = %d, %d, %d, want 0, 0, ErrOutside", ground, x, y, i, j, e2)
		}
		return false
	}
	if i != wantI || j != wantJ || e2 != api.OK {
		t.Fatalf("Facet(%v, %.99v, %.99v) = %d, %d, %d, want %d, %d, OK", ground, x, y, i, j, e2, wantI, wantJ)
	}
	if want := heightIn(ground, i, j, x, y); height.String() != want.RatString() || e1 != api.OK {
		t.Fatalf("Height(%v, %.99v, %.99v) = %.99v, %d, want %.99v, OK", ground, x, y, height, e1, want)
	}
	return true
}

func TestExamplesOfTheChapter(t *testing.T) {
	if f, e := Form(sample(), 0, 0); f != [4]int{0, 10, 20, 10} || e != api.OK {
		t.Errorf("Form = %v, %d, want 0, 10, 20, 10, OK", f, e)
	}
	for _, v := range []struct {
		x, y, height string
		want         api.Errno
	}{{"5", "5", "35/2", api.OK}, {"10", "10", "40", api.OK}, {"11", "0", "0", api.ErrOutside}} {
		if h, e := Height(sample(), number(v.x), number(v.y)); h.String() != v.height || e != v.want {
			t.Errorf("Height at %s, %s = %v, %d, want %s, %d", v.x, v.y, h, e, v.height, v.want)
		}
	}
}

// P10.1: numbers of nodes and steps at their limits, just beyond them, and where products overflow.
func TestLimitsOfShapes(t *testing.T) {
	check := func(ground api.Terrain, want api.Errno) {
		t.Helper()
		if e := Valid(ground); e != want {
			t.Errorf("Valid with the step %d, %d columns, %d rows and %d heights = %d, want %d",
				ground.Step, ground.Cols, ground.Rows, len(ground.Heights), e, want)
		}
	}
	for n, want := range map[int]api.Errno{0: api.ErrArg, 1: api.ErrArg, 2: api.OK, 3: api.OK, 127: api.OK, 128: api.OK, 129: api.ErrArg, 256: api.ErrArg} {
		check(sized(n, 2), want)
		check(sized(2, n), want)
		check(sized(n, 5), want)
		check(sized(5, n), want)
		check(sized(n, n), want)
	}
	for n, want := range map[int]api.Errno{math.MinInt: api.ErrArg, -65536: api.ErrArg, -1: api.ErrArg, 0: api.ErrArg, 1: api.OK, 2: api.OK, 65535: api.OK, 65536: api.OK, 65537: api.ErrArg, math.MaxInt: api.ErrArg} {
		ground := sized(3, 4)
		ground.Step = n
		check(ground, want)
	}
	for _, size := range []int{0, 1, 11, 13, 24} {
		ground := sized(3, 4)
		ground.Heights = make([]int, size)
		check(ground, api.ErrArg)
	}
	for _, v := range []struct{ cols, rows, size int }{
		{-2, -3, 6}, {-3, -2, 6}, {1, 6, 6}, {6, 1, 6}, {1 << 32, 1 << 32, 0}, {1 << 62, 4, 0}, {4, 1 << 62, 0},
		{math.MinInt, 2, 0}, {2, math.MinInt, 0}, {1<<63 - 1, 1<<63 - 1, 1}, {-1, 3, 0}, {0, 0, 0}, {2, 1<<63 - 1, 0},
	} {
		check(api.Terrain{Step: 1, Cols: v.cols, Rows: v.rows, Heights: make([]int, v.size)}, api.ErrArg)
	}
	check(api.Terrain{}, api.ErrArg)
	check(sample(), api.OK)
	check(plain(), api.OK)
}

// P10.1: coordinates of the first and of the last node at their limits and just beyond them, also of terrains that are too
// long for any place.
func TestLimitsOfCoordinates(t *testing.T) {
	const most = 1 << 20
	for _, v := range []struct{ step, nodes int }{{1, 2}, {1, 128}, {1000, 7}, {65536, 9}, {16384, 128}, {65536, 33}, {65536, 34}, {65536, 128}} {
		length := (v.nodes - 1) * v.step
		firsts := []int{0, -most, -most - 1, most - length, most - length + 1, most, most + 1, math.MinInt, math.MaxInt, math.MaxInt - length}
		for _, first := range firsts {
			want := api.ErrRange
			if last := plus(wholeRat(first), wholeRat(length)); first >= -most && last.Cmp(wholeRat(most)) <= 0 {
				want = api.OK
			}
			ground := sized(v.nodes, 2)
			ground.Step, ground.X = v.step, first
			if e := Valid(ground); e != want {
				t.Errorf("Valid at X = %d with the step %d and %d columns = %d, want %d", first, v.step, v.nodes, e, want)
			}
			ground = sized(2, v.nodes)
			ground.Step, ground.Y = v.step, first
			if e := Valid(ground); e != want {
				t.Errorf("Valid at Y = %d with the step %d and %d rows = %d, want %d", first, v.step, v.nodes, e, want)
			}
		}
	}
}

// P10.1.
func TestLimitsOfHeights(t *testing.T) {
	for n, want := range map[int]api.Errno{1 << 14: api.OK, -1 << 14: api.OK, 1<<14 + 1: api.ErrRange, -1<<14 - 1: api.ErrRange,
		math.MaxInt: api.ErrRange, math.MinInt: api.ErrRange} {
		for i := range plain().Heights {
			ground := plain()
			ground.Heights[i] = n
			if e := Valid(ground); e != want {
				t.Errorf("Valid with the height %d in place %d = %d, want %d", n, i, e, want)
			}
		}
	}
}

// invalid are terrains with one or more mistakes, and the errors of these. Those that have as many heights as columns
// times rows come first.
func invalid() (grounds []api.Terrain, errors []api.Errno) {
	shapes := []func(t *api.Terrain){
		func(t *api.Terrain) { t.Step = 0 },
		func(t *api.Terrain) { t.Step = 65537 },
		func(t *api.Terrain) { *t = sized(1, 12) },
		func(t *api.Terrain) { *t = sized(129, 2) },
		func(t *api.Terrain) { *t = sized(12, 1) },
		func(t *api.Terrain) { *t = sized(2, 129) },
		func(t *api.Terrain) { t.Heights = t.Heights[:11] },
		func(t *api.Terrain) { t.Heights = append(t.Heights, 0) },
		func(t *api.Terrain) { t.Cols, t.Rows = -4, -3 },
	}
	places := []func(t *api.Terrain){
		func(t *api.Terrain) { t.X = -1<<20 - 1 },
		func(t *api.Terrain) { t.X = 1 << 20 },
		func(t *api.Terrain) { t.Y = -1<<20 - 1 },
		func(t *api.Terrain) { t.Y = 1 << 20 },
		func(t *api.Terrain) { t.Heights[0] = 1<<14 + 1 },
		func(t *api.Terrain) { t.Heights[9] = -1<<14 - 1 },
	}
	for _, spoil := range shapes {
		ground := plain()
		spoil(&ground)
		grounds, errors = append(grounds, ground), append(errors, api.ErrArg)
	}
	for _, displace := range places {
		ground := plain()
		displace(&ground)
		grounds, errors = append(grounds, ground), append(errors, api.ErrRange)
		for _, spoil := range shapes {
			ground := plain()
			spoil(&ground)
			displace(&ground)
			grounds, errors = append(grounds, ground), append(errors, api.ErrArg)
		}
	}
	return grounds, errors
}

// checkErrors checks that the functions return the error of a terrain, whatever the other arguments are.
func checkErrors(t *testing.T, ground api.Terrain, x, y frac.Frac, across, down ival.Ival, i, j, h int, want api.Errno) {
	t.Helper()
	if e := Valid(ground); e != want {
		t.Errorf("Valid(%v) = %d, want %d", ground, e, want)
	}
	if height, e := Height(ground, x, y); e != want || height.String() != "0" {
		t.Errorf("Height(%v) = %v, %d, want 0, %d", ground, height, e, want)
	}
	if column, row, e := Facet(ground, x, y); e != want || column != 0 || row != 0 {
		t.Errorf("Facet(%v) = %d, %d, %d, want 0, 0, %d", ground, column, row, e, want)
	}
	if f, e := Form(ground, i, j); e != want || f != [4]int{} {
		t.Errorf("Form(%v) = %v, %d, want zeros, %d", ground, f, e, want)
	}
	if least, greatest, e := Range(ground, across, down); e != want || least != 0 || greatest != 0 {
		t.Errorf("Range(%v) = %d, %d, %d, want 0, 0, %d", ground, least, greatest, e, want)
	}
	if raised, e := Raise(ground, i, j, h); e != want || !isZero(raised) {
		t.Errorf("Raise(%v) = %v, %d, want zeros, %d", ground, raised, e, want)
	}
}

func isZero(t api.Terrain) bool {
	return len(t.Heights) == 0 && t.X == 0 && t.Y == 0 && t.Step == 0 && t.Cols == 0 && t.Rows == 0
}

// P10.1: the errors of terrains have an order and come before all other ones. There are other ones, and none.
func TestErrorsOfTerrainsComeFirst(t *testing.T) {
	long := fracOf(integer(power2(1024, 0)))
	far, e := ival.Of(fracOf(integer(power2(8159, 0))))
	if e != api.OK {
		t.Fatal(e)
	}
	one := ival.Ival{}
	grounds, errors := invalid()
	for k, ground := range grounds {
		checkErrors(t, ground, number("0"), number("6"), one, one, 0, 0, 5, errors[k])
		checkErrors(t, ground, long, long, far, far, -1, -1, 1<<14+1, errors[k])
		checkErrors(t, ground, number("99999999"), number("0"), far, one, 500, 0, 0, errors[k])
	}
}

// P10.2.
func TestFacetsAndHeights(t *testing.T) {
	source := rand.New(rand.NewSource(1))
	inside := 0
	for range 2000 {
		ground := randomTerrain(source)
		x, y := randomInside(source, ground)
		if !checkPoint(t, ground, x, y) {
			t.Fatalf("%v, %v is outside of %v", x, y, ground)
		}
		off := wholeRat(source.Intn(2*ground.Step+1) - ground.Step)
		if checkPoint(t, ground, plus(x, off), y) {
			inside++
		}
		if checkPoint(t, ground, x, plus(y, off)) {
			inside++
		}
	}
	if inside < 400 || inside > 3600 {
		t.Errorf("%d of 4000 points are in the domain", inside)
	}
}

// P10.2: nodes, and points a little beside them in all directions, some of which are outside.
func TestPointsAtNodes(t *testing.T) {
	source := rand.New(rand.NewSource(2))
	little := ratio(big.NewInt(1), power2(900, 0))
	for range 12 {
		ground := randomTerrain(source)
		inside := 0
		for i := range ground.Cols {
			for j := range ground.Rows {
				for k := range 9 {
					x := plus(column(ground, i), times(little, wholeRat(k%3-1)))
					y := plus(row(ground, j), times(little, wholeRat(k/3-1)))
					if checkPoint(t, ground, x, y) {
						inside++
					}
				}
			}
		}
		if want := (3*ground.Cols - 2) * (3*ground.Rows - 2); inside != want {
			t.Errorf("%d points beside nodes are inside, want %d", inside, want)
		}
	}
}

// P10.2: points that are far outside on one side or on several ones.
func TestPointsOutside(t *testing.T) {
	in, limit := []string{"-3", "8"}, integer(power2(1024, -1))
	far := []frac.Frac{fracOf(limit), fracOf(minus(new(big.Rat), limit)), number("-8"), number("30")}
	for _, n := range far {
		for _, at := range [][2]frac.Frac{{n, number(in[1])}, {number(in[0]), n}, {n, n}} {
			if h, e := Height(plain(), at[0], at[1]); e != api.ErrOutside || h.String() != "0" {
				t.Errorf("Height at %.50v = %v, %d, want 0, ErrOutside", at, h, e)
			}
			if i, j, e := Facet(plain(), at[0], at[1]); e != api.ErrOutside || i != 0 || j != 0 {
				t.Errorf("Facet at %.50v = %d, %d, %d, want 0, 0, ErrOutside", at, i, j, e)
			}
		}
	}
}

// P10.2: coordinates with 1024 digits and with more, which is found ahead of points outside.
func TestLimitOfDigits(t *testing.T) {
	half := power2(1023, 12345)
	for _, short := range []*big.Rat{
		ratio(big.NewInt(1), power2(1024, -1)),
		ratio(half, power2(1024, -1)),
		ratio(power2(1024, -3), half),
		ratio(new(big.Int).Neg(power2(1024, -1)), power2(1023, 0)),
	} {
		ground := plain()
		ground.X, ground.Y = -2, -3
		for _, at := range [][2]*big.Rat{{short, short}, {short, wholeRat(1)}, {wholeRat(1), short}} {
			if !checkPoint(t, ground, at[0], at[1]) {
				t.Errorf("%.50v is outside", at)
			}
		}
	}
	for _, long := range []*big.Rat{
		ratio(big.NewInt(1), power2(1024, 0)),
		ratio(power2(1024, -1), power2(1024, 0)),
		ratio(power2(1024, 1), power2(1023, 0)),
		integer(power2(1024, 0)),
		integer(new(big.Int).Neg(power2(1024, 0))),
		integer(power2(16000, 0)),
		ratio(big.NewInt(1), power2(16000, 0)),
	} {
		ground := plain()
		ground.X, ground.Y = -2, -3
		for _, at := range [][2]*big.Rat{{long, wholeRat(1)}, {wholeRat(1), long}, {long, wholeRat(99)}, {wholeRat(-99), long}, {long, long}} {
			if h, e := Height(ground, fracOf(at[0]), fracOf(at[1])); e != api.ErrLimit || h.String() != "0" {
				t.Errorf("Height at %.50v = %.50v, %d, want 0, ErrLimit", at, h, e)
			}
			if i, j, e := Facet(ground, fracOf(at[0]), fracOf(at[1])); e != api.ErrLimit || i != 0 || j != 0 {
				t.Errorf("Facet at %.50v = %d, %d, %d, want 0, 0, ErrLimit", at, i, j, e)
			}
		}
	}
}

// P10.2: the numbers on the way to the height are as great as they can be.
func TestGreatestNumbers(t *testing.T) {
	source := rand.New(rand.NewSource(3))
	ground := api.Terrain{X: -1 << 20, Y: -1<<20 + 63, Step: 65535, Cols: 33, Rows: 32}
	for range ground.Cols * ground.Rows {
		ground.Heights = append(ground.Heights, (source.Intn(2)*2-1)*(1<<14-source.Intn(2)))
	}
	for range 300 {
		below := new(big.Int).Sub(power2(1004, 0), new(big.Int).Rand(source, power2(1000, 0)))
		other := new(big.Int).Sub(power2(1004, 0), new(big.Int).Rand(source, power2(1000, 0)))
		most := func(b *big.Int) *big.Int { return new(big.Int).Rand(source, new(big.Int).Lsh(b, 20)) }
		x, y := ratio(most(below), below), ratio(most(other), other)
		checkPoint(t, ground, minus(x, wholeRat(source.Intn(1<<20))), minus(y, wholeRat(source.Intn(1<<20))))
	}
}

// P10.3: all forms of a terrain, by their values at the nodes, and the places where there are none.
func TestForms(t *testing.T) {
	source := rand.New(rand.NewSource(4))
	for range 100 {
		ground := randomTerrain(source)
		at := func(i, j int) int { return ground.Heights[j*ground.Cols+i] }
		for i := range ground.Cols - 1 {
			for j := range ground.Rows - 1 {
				a := at(i, j)
				b, c := at(i+1, j)-a, at(i, j+1)-a
				want := [4]int{a, b, c, at(i+1, j+1) - a - b - c}
				if f, e := Form(ground, i, j); f != want || e != api.OK {
					t.Fatalf("Form(%v, %d, %d) = %v, %d, want %v, OK", ground, i, j, f, e, want)
				}
			}
		}
		for _, n := range []int{-1, ground.Cols - 1, ground.Cols, ground.Rows - 1, ground.Rows, math.MinInt, math.MaxInt, 1 << 62} {
			if n < 0 || n >= ground.Cols-1 {
				checkNoForm(t, ground, n, 0)
				checkNoForm(t, ground, n, ground.Rows-2)
			}
			if n < 0 || n >= ground.Rows-1 {
				checkNoForm(t, ground, 0, n)
				checkNoForm(t, ground, ground.Cols-2, n)
				checkNoForm(t, ground, n, n)
			}
		}
	}
}

func checkNoForm(t *testing.T, ground api.Terrain, i, j int) {
	t.Helper()
	if f, e := Form(ground, i, j); f != [4]int{} || e != api.ErrRange {
		t.Fatalf("Form(%v, %d, %d) = %v, %d, want zeros, ErrRange", ground, i, j, f, e)
	}
}

// P10.7: on borders the forms of all facets that have the point give the height, and at nodes it is that of the node.
func TestContinuous(t *testing.T) {
	source := rand.New(rand.NewSource(5))
	for range 60 {
		ground := randomTerrain(source)
		part := times(big.NewRat(int64(source.Intn(101)), 100), wholeRat(ground.Step))
		for i := range ground.Cols {
			for j := range ground.Rows {
				checkContinuous(t, ground, column(ground, i), row(ground, j))
				if i < ground.Cols-1 {
					checkContinuous(t, ground, plus(column(ground, i), part), row(ground, j))
				}
				if j < ground.Rows-1 {
					checkContinuous(t, ground, column(ground, i), plus(row(ground, j), part))
				}
				if h, e := Height(ground, fracOf(column(ground, i)), fracOf(row(ground, j))); e != api.OK || ratOf(h).Cmp(node(ground, i, j)) != 0 {
					t.Fatalf("Height at the node %d, %d of %v = %v, %d, want %v, OK", i, j, ground, h, e, node(ground, i, j))
				}
			}
		}
	}
}

// checkContinuous compares the height of a point with those in all facets that have it.
func checkContinuous(t *testing.T, ground api.Terrain, x, y *big.Rat) {
	t.Helper()
	h, e := Height(ground, fracOf(x), fracOf(y))
	if e != api.OK {
		t.Fatalf("Height(%v, %v, %v) returns the error %d", ground, x, y, e)
	}
	for i := range ground.Cols - 1 {
		for j := range ground.Rows - 1 {
			if column(ground, i).Cmp(x) > 0 || x.Cmp(column(ground, i+1)) > 0 || row(ground, j).Cmp(y) > 0 || y.Cmp(row(ground, j+1)) > 0 {
				continue
			}
			if value := formValue(t, ground, i, j, x, y); value.Cmp(ratOf(h)) != 0 {
				t.Fatalf("Height(%v, %v, %v) = %v, but %v in the facet %d, %d", ground, x, y, h, value, i, j)
			}
		}
	}
}

// P10.9.
func TestLines(t *testing.T) {
	source := rand.New(rand.NewSource(6))
	for range 500 {
		ground := randomTerrain(source)
		i, j := source.Intn(ground.Cols-1), source.Intn(ground.Rows-1)
		along := func() *big.Rat {
			return times(wholeRat(ground.Step), big.NewRat(int64(source.Intn(1001)), 1000))
		}
		x, y := plus(column(ground, i), along()), plus(row(ground, j), along())
		otherX, otherY := plus(column(ground, i), along()), plus(row(ground, j), along())
		checkMiddle(t, ground, [2]*big.Rat{x, y}, [2]*big.Rat{otherX, y})
		checkMiddle(t, ground, [2]*big.Rat{x, y}, [2]*big.Rat{x, otherY})
	}
}

// checkMiddle checks that the height of the middle of two points is the mean of their heights.
func checkMiddle(t *testing.T, ground api.Terrain, a, b [2]*big.Rat) {
	t.Helper()
	half := big.NewRat(1, 2)
	heights := [3]*big.Rat{}
	for k, at := range [][2]*big.Rat{a, b, {times(half, plus(a[0], b[0])), times(half, plus(a[1], b[1]))}} {
		h, e := Height(ground, fracOf(at[0]), fracOf(at[1]))
		if e != api.OK {
			t.Fatalf("Height(%v, %v) returns the error %d", ground, at, e)
		}
		heights[k] = ratOf(h)
	}
	if want := times(half, plus(heights[0], heights[1])); want.Cmp(heights[2]) != 0 {
		t.Fatalf("the height of %v between %v and %v is %v, want %v", ground, a, b, heights[2], want)
	}
}

// R3: no function changes the heights it is given.
func TestArgumentsStay(t *testing.T) {
	ground := plain()
	x := ival.Ival{}
	Valid(ground)
	Height(ground, number("1/2"), number("6"))
	Facet(ground, number("1/2"), number("6"))
	Form(ground, 1, 1)
	Range(ground, x, x)
	Raise(ground, 1, 1, 7)
	Encode(ground)
	if !slices.Equal(ground.Heights, plain().Heights) {
		t.Errorf("the heights are now %v", ground.Heights)
	}
}
