package polygon

import (
	"math"
	"math/big"
	"math/rand"
	"testing"

	"skymosaic/api"
)

// checkPlace checks Has and Side for a point of a valid polygon (P13.3), and returns what Side has to return.
func checkPlace(t *testing.T, p api.Polygon, at spot) int {
	t.Helper()
	u, v := fracOf(at.x), fracOf(at.y)
	want, wantSide := belongs(p, at), sideOf(p, at)
	if has, e := Has(p, u, v); has != want || e != api.OK {
		t.Fatalf("Has(%v, %v) = %t, %d, want %t, OK", p.Rings, at, has, e, want)
	}
	if side, e := Side(p, u, v); side != wantSide || e != api.OK {
		t.Fatalf("Side(%v, %v) = %d, %d, want %d, OK", p.Rings, at, side, e, wantSide)
	}
	return wantSide
}

// P13.3: the chapter's examples.
func TestExamples(t *testing.T) {
	square := Rect(0, 0, 2, 2)
	for _, v := range []struct {
		x, y int
		has  bool
	}{{0, 0, true}, {0, 1, true}, {2, 1, false}, {1, 2, false}} {
		at := spotOf(api.Point{X: v.x, Y: v.y})
		if side := checkPlace(t, square, at); side != 0 || belongs(square, at) != v.has {
			t.Errorf("the model says %d and not %t for %v", side, v.has, at)
		}
	}
	if area, e := Area2(square); area != 8 || e != api.OK {
		t.Errorf("Area2 = %d, %d, want 8, OK", area, e)
	}
	checkValid(t, polygonOf("0 0, 2 2, 2 0, 0 2"), api.ErrFlat)
}

// P13.3: all points of a grid of halves around small polygons, which have many horizontal and vertical edges.
func TestHalves(t *testing.T) {
	source := rand.New(rand.NewSource(10))
	count := map[int]int{}
	for range 60 {
		p := randomPolygon(source, 12, 2, 4)
		before := cloned(p)
		for x := -10; x <= 10; x++ {
			for y := -10; y <= 10; y++ {
				count[checkPlace(t, p, spot{big.NewRat(int64(x), 2), big.NewRat(int64(y), 2)})]++
			}
		}
		if !areEqual(p, before) {
			t.Fatalf("%v was changed to %v", before.Rings, p.Rings)
		}
	}
	for side := -1; side <= 1; side++ {
		if count[side] < 1000 {
			t.Errorf("there are %v results", count)
		}
	}
}

// randomPart returns a fraction from 0 to 1 whose denominator has at most so many digits.
func randomPart(source *rand.Rand, digits uint) *big.Rat {
	below := new(big.Int).Add(new(big.Int).Rand(source, power2(digits, -1)), big.NewInt(1))
	return ratio(new(big.Int).Rand(source, new(big.Int).Add(below, big.NewInt(1))), below)
}

// around returns points near to a point of an edge, some of them as near as the limit allows.
func nearby(source *rand.Rand, at spot) []spot {
	list := []spot{at}
	little := []*big.Rat{rational(1), big.NewRat(1, 2), big.NewRat(1, 1<<20), big.NewRat(1, 1<<62), ratio(big.NewInt(1), power2(900, 0))}
	for _, step := range little {
		for _, part := range [][2]int{{1, 0}, {-1, 0}, {0, 1}, {0, -1}, {source.Intn(7) - 3, source.Intn(7) - 3}} {
			list = append(list, spot{plus(at.x, times(step, rational(part[0]))), plus(at.y, times(step, rational(part[1])))})
		}
	}
	return list
}

// P13.3: vertices, points of edges, and points near them.
func TestPointsOfEdges(t *testing.T) {
	source := rand.New(rand.NewSource(11))
	count := map[int]int{}
	for range 60 {
		p := mixed(source)
		for _, ring := range p.Rings {
			i := source.Intn(len(ring))
			a, b := spotOf(ring[i]), spotOf(ring[(i+1)%len(ring)])
			for _, part := range []*big.Rat{new(big.Rat), big.NewRat(1, 2), randomPart(source, 4), randomPart(source, 60)} {
				for _, at := range nearby(source, a.on(b, part)) {
					count[checkPlace(t, p, at)]++
				}
			}
		}
	}
	for side := -1; side <= 1; side++ {
		if count[side] < 300 {
			t.Errorf("there are %v results", count)
		}
	}
}

// P13.3: the continuations of edges do not belong to them.
func TestContinuations(t *testing.T) {
	source := rand.New(rand.NewSource(12))
	for range 100 {
		p := mixed(source)
		for _, ring := range p.Rings {
			for i := range ring {
				a, b := spotOf(ring[i]), spotOf(ring[(i+1)%len(ring)])
				for _, part := range []*big.Rat{rational(-1), big.NewRat(-1, 100), ratio(power2(80, 1), power2(80, 0)), rational(2), rational(1 << 45)} {
					checkPlace(t, p, a.on(b, part))
				}
			}
		}
	}
}

// P13.3: random points.
func TestRandomPoints(t *testing.T) {
	source := rand.New(rand.NewSource(13))
	count := map[int]int{}
	for range 400 {
		p := mixed(source)
		least, greatest, _ := Box(p)
		corner, other := spotOf(least), spotOf(greatest)
		for range 10 {
			digits := uint(1 + source.Intn(100))
			at := spot{
				plus(corner.x, times(randomPart(source, digits), minus(other.x, corner.x))),
				plus(corner.y, times(randomPart(source, digits), minus(other.y, corner.y)))}
			count[checkPlace(t, p, at)]++
		}
	}
	if count[1] < 1000 || count[-1] < 1000 {
		t.Errorf("there are %v results", count)
	}
}

// farAway is coordinates beyond all vertices, up to the limit.
func farAway() (list []*big.Rat) {
	for _, n := range []*big.Int{
		power2(20, 0), power2(20, 1), power2(20, 2), power2(31, 0), power2(32, 0), power2(32, 1), power2(62, 0), power2(63, -1), power2(63, 0),
		power2(63, 1), power2(64, -1), power2(64, 0), power2(64, 1), power2(65, 3), power2(1023, 0), power2(1024, -1)} {
		for _, x := range []*big.Rat{new(big.Rat).SetInt(n), ratio(new(big.Int).Sub(new(big.Int).Lsh(n, 1), big.NewInt(1)), big.NewInt(2)), ratio(n, big.NewInt(3))} {
			if x.Num().BitLen() <= 1024 {
				list = append(list, x, new(big.Rat).Neg(x))
			}
		}
	}
	for _, n := range []int64{math.MaxInt64, math.MinInt64} {
		for _, part := range []*big.Rat{big.NewRat(1, 2), big.NewRat(-1, 2), big.NewRat(1, 1<<40)} {
			list = append(list, plus(rational(int(n)), part))
		}
	}
	return list
}

// P13.3: points as far away as the limit allows, on the lines of edges or not.
func TestFarPoints(t *testing.T) {
	const m = 1 << 20
	near := []*big.Rat{rational(0), rational(m), rational(-m), rational(1), big.NewRat(1, 2), big.NewRat(-m*3-1, 3), big.NewRat(2*m+1, 2)}
	for _, p := range []api.Polygon{Rect(0, 0, 1, 1), Rect(-m, -m, 2*m, 2*m), polygonOf("0 0, 1048576 1048576, -1048576 1048576; 0 1, -5 12, 5 12"), polygonOf("0 0, -1048576 -1048576, 1048576 -1048576")} {
		for _, a := range farAway() {
			for _, b := range near {
				checkPlace(t, p, spot{a, b})
				checkPlace(t, p, spot{b, a})
			}
			checkPlace(t, p, spot{a, a})
			checkPlace(t, p, spot{a, new(big.Rat).Neg(a)})
		}
	}
}

// P13.3: numbers of 1024 binary digits and one more.
func TestLongCoordinates(t *testing.T) {
	p := polygonOf("-9 -9, 9 -8, 8 9, -8 8; 1 1, 3 2, 2 3")
	one := big.NewInt(1)
	for _, v := range []struct {
		above, below *big.Int
		want         api.Errno
	}{
		{power2(1024, -1), one, api.OK}, {power2(1024, 0), one, api.ErrLimit}, {power2(1024, 1), one, api.ErrLimit},
		{one, power2(1024, -1), api.OK}, {one, power2(1024, 0), api.ErrLimit}, {one, power2(1024, 1), api.ErrLimit},
		{power2(1024, -1), power2(1023, 0), api.OK}, {power2(1024, -3), power2(1023, -1), api.OK}, {power2(1024, 1), power2(1023, 0), api.ErrLimit},
		{power2(1024, -1), power2(1024, 0), api.ErrLimit}, {power2(16000, 1), one, api.ErrLimit}, {one, power2(16000, 1), api.ErrLimit},
		{power2(16000, 1), power2(16000, 0), api.ErrLimit}, {power2(2048, 0), one, api.ErrLimit}, {one, power2(512, 0), api.OK}, {power2(513, 0), one, api.OK},
		{power2(992, 0), power2(991, 1), api.OK}, {power2(1025, 0), one, api.ErrLimit},
	} {
		for _, sign := range []int64{1, -1} {
			long := ratio(new(big.Int).Mul(v.above, big.NewInt(sign)), v.below)
			for _, other := range []*big.Rat{new(big.Rat), big.NewRat(5, 2), rational(100), long} {
				for _, at := range []spot{{long, other}, {other, long}} {
					if v.want == api.OK {
						checkPlace(t, p, at)
						continue
					}
					if has, e := Has(p, fracOf(at.x), fracOf(at.y)); has || e != v.want {
						t.Errorf("Has(%.40v) = %t, %d, want false, %d", at, has, e, v.want)
					}
					if side, e := Side(p, fracOf(at.x), fracOf(at.y)); side != 0 || e != v.want {
						t.Errorf("Side(%.40v) = %d, %d, want 0, %d", at, side, e, v.want)
					}
				}
			}
		}
	}
}

// P13.3: points at a distance of about 2^-980 from an edge, or on it.
func TestNextToEdges(t *testing.T) {
	const m = 1 << 20
	little := ratio(big.NewInt(1), power2(980, 1))
	for _, p := range []api.Polygon{
		{Rings: [][]api.Point{{{X: -m, Y: -m}, {X: m, Y: -m}, {X: m, Y: m - 1}}}},
		{Rings: [][]api.Point{{{X: -m, Y: -m}, {X: m, Y: m - 1}, {X: -m, Y: m}}}},
		{Rings: [][]api.Point{{{X: -m, Y: m}, {X: m, Y: -m + 3}, {X: m, Y: m}}}},
		{Rings: [][]api.Point{{{X: m, Y: m}, {X: -m, Y: m}, {X: -m, Y: 1 - m}, {X: 5 - m, Y: -m}}}},
	} {
		ring := p.Rings[0]
		for i := range ring {
			a, b := spotOf(ring[i]), spotOf(ring[(i+1)%len(ring)])
			for _, part := range []*big.Rat{rational(0), big.NewRat(1, 2), big.NewRat(1, 1<<10), rational(1)} {
				at := a.on(b, part)
				for _, step := range []spot{{little, rational(0)}, {rational(0), little}, {little, little}} {
					for _, sign := range []*big.Rat{rational(1), rational(-1), rational(0)} {
						checkPlace(t, p, spot{plus(at.x, times(sign, step.x)), plus(at.y, times(sign, step.y))})
					}
				}
			}
		}
	}
}

// P13.3 and P13.8: of the points of the boundary, those of left and lower edges belong to a polygon.
func TestBoundary(t *testing.T) {
	source := rand.New(rand.NewSource(14))
	for range 200 {
		p, e := Normal(mixed(source))
		if e != api.OK {
			t.Fatalf("Normal returns the error %d", e)
		}
		for _, ring := range p.Rings {
			for i, a := range ring {
				b := ring[(i+1)%len(ring)]
				// the polygon is on the left of all edges of a normal one
				want := b.Y < a.Y || b.Y == a.Y && b.X > a.X
				at := spotOf(a).on(spotOf(b), ratio(big.NewInt(1+source.Int63n(98)), big.NewInt(99)))
				if has, e := Has(p, fracOf(at.x), fracOf(at.y)); has != want || e != api.OK {
					t.Fatalf("Has(%v, %v) = %t, %d, want %t, OK", p.Rings, at, has, e, want)
				}
			}
		}
	}
}

// P13.3: the most vertices, all of whose edges many lines cross.
func TestManyVertices(t *testing.T) {
	comb := []api.Point{}
	for i := range 254 {
		comb = append(comb, api.Point{X: 3 * i, Y: i % 2 * 50})
	}
	comb = append(comb, api.Point{X: 800, Y: -9}, api.Point{X: -9, Y: -9})
	p := api.Polygon{Rings: [][]api.Point{comb}}
	source := rand.New(rand.NewSource(15))
	count := map[int]int{}
	for range 200 {
		count[checkPlace(t, p, spot{big.NewRat(source.Int63n(7800)-90, 10), big.NewRat(source.Int63n(12), 5)})]++
		count[checkPlace(t, p, spot{rational(source.Intn(780) - 9), rational([]int{-9, 0, 50, 25}[source.Intn(4)])})]++
	}
	for side := -1; side <= 1; side++ {
		if count[side] < 20 {
			t.Errorf("there are %v results", count)
		}
	}
}
