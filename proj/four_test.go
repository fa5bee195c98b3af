package proj

import (
	"math"
	"math/rand"
	"testing"

	"skymosaic/api"
)

// unit is the corners of the unit square.
var unit = [4]api.Point{{}, {X: 1}, {X: 1, Y: 1}, {Y: 1}}

// checkFour checks the projection of four points, that it takes each of them where it has to, and returns the error.
func checkFour(t *testing.T, from, to [4]api.Point) api.Errno {
	t.Helper()
	want, wantE := fourOf(from, to)
	p, e := Four(from, to)
	if p != want || e != wantE {
		t.Fatalf("Four(%v, %v) = %v, %d, want %v, %d", from, to, p.M, e, want.M, wantE)
	}
	if e != api.OK {
		return e
	}
	for i, start := range from {
		u, v := rationals(start.X)[0], rationals(start.Y)[0]
		x, y, e := Apply(p, fracOf(u), fracOf(v))
		if end := rationals(to[i].X, to[i].Y); e != api.OK || ratOf(x).Cmp(end[0]) != 0 || ratOf(y).Cmp(end[1]) != 0 {
			t.Fatalf("Four(%v, %v) takes %v to %v, %v, %d, want %v", from, to, start, x, y, e, to[i])
		}
	}
	return api.OK
}

func randomPoints(source *rand.Rand, most int) (points [4]api.Point) {
	for i := range points {
		points[i] = api.Point{X: source.Intn(2*most+1) - most, Y: source.Intn(2*most+1) - most}
	}
	return points
}

// P12.6.
func TestFour(t *testing.T) {
	source := rand.New(rand.NewSource(20))
	count := map[api.Errno]int{}
	for _, most := range []int{1, 2, 5, 30, 200, 1000, 1 << 20} {
		for range 400 {
			count[checkFour(t, randomPoints(source, most), randomPoints(source, most))]++
			count[checkFour(t, unit, randomPoints(source, most))]++
		}
	}
	for _, e := range []api.Errno{api.OK, api.ErrFlat, api.ErrRange} {
		if count[e] < 300 {
			t.Errorf("there are %v results", count)
		}
	}
}

// P12.6: all orders of the corners, so that lines between them cross or do not, and other shapes than squares.
func TestOrdersOfCorners(t *testing.T) {
	shapes := [][4]api.Point{unit, {{X: 3}, {X: 7, Y: 1}, {X: -2, Y: 5}, {X: 3, Y: 2}}, {{X: -1, Y: -1}, {X: 4, Y: -3}, {Y: 9}, {X: 6, Y: 2}}}
	for _, from := range shapes {
		for _, to := range shapes {
			for number := range 256 {
				order := [4]int{number & 3, number >> 2 & 3, number >> 4 & 3, number >> 6}
				turned, twice := [4]api.Point{}, false
				for i, k := range order {
					turned[i] = to[k]
					for _, other := range order[:i] {
						twice = twice || other == k
					}
				}
				want := api.OK
				if twice {
					want = api.ErrFlat
				}
				if e := checkFour(t, from, turned); e != want {
					t.Errorf("Four(%v, %v) returns the error %d, want %d", from, turned, e, want)
				}
			}
		}
	}
}

// P12.6: any three points are on a line, in each of the two lists, or two points are equal.
func TestFlatPoints(t *testing.T) {
	for _, line := range [][3]api.Point{
		{{}, {X: 1, Y: 1}, {X: 2, Y: 2}}, {{X: 2}, {X: 5}, {X: -4}}, {{X: 3, Y: 1}, {X: 3, Y: 8}, {X: 3, Y: -2}},
		{{X: -1 << 20, Y: -1 << 20}, {X: 1 << 20, Y: 1 << 20}, {}}, {{}, {X: 1, Y: 3}, {X: 2, Y: 6}},
		{{X: 1}, {X: 1}, {Y: 5}}, {{Y: 5}, {X: 1}, {X: 1}}, {{X: 1}, {Y: 5}, {X: 1}}, {{X: 1}, {X: 1}, {X: 1}},
	} {
		for place := range 4 {
			points := [4]api.Point{}
			copy(points[:], line[:place])
			points[place] = api.Point{X: 10, Y: -7}
			copy(points[place+1:], line[place:])
			for _, lists := range [][2][4]api.Point{{points, unit}, {unit, points}, {points, points}} {
				if e := checkFour(t, lists[0], lists[1]); e != api.ErrFlat {
					t.Errorf("Four(%v, %v) returns the error %d, want ErrFlat", lists[0], lists[1], e)
				}
			}
		}
	}
	if e := checkFour(t, [4]api.Point{}, unit); e != api.ErrFlat {
		t.Errorf("Four of equal points returns the error %d, want ErrFlat", e)
	}
}

// P12.6: three points are nearly on a line, at the greatest distances.
func TestNearlyFlatPoints(t *testing.T) {
	most := 1 << 20
	for _, dx := range []int{-1, 0, 1} {
		from := [4]api.Point{{X: -most, Y: -most}, {X: dx}, {X: most, Y: most}, {X: most, Y: -most}}
		for range 4 {
			checkFour(t, from, unit)
			checkFour(t, unit, from)
			from = [4]api.Point{from[1], from[2], from[3], from[0]}
		}
	}
}

// P12.6: each coordinate at its limits and just beyond them, ahead of points on a line.
func TestLimitsOfCoordinates(t *testing.T) {
	square := [4]api.Point{{X: -1 << 20, Y: -1 << 20}, {X: 1 << 20, Y: -1 << 20}, {X: 1 << 20, Y: 1 << 20}, {X: -1 << 20, Y: 1 << 20}}
	if e := checkFour(t, square, square); e != api.OK {
		t.Errorf("Four returns the error %d for the greatest square", e)
	}
	for _, n := range []int{1 << 20, -1 << 20, 1<<20 + 1, -1<<20 - 1, math.MaxInt, math.MinInt} {
		for i := range 4 {
			for _, other := range [][4]api.Point{square, {}} {
				first, second := other, other
				first[i].X, second[i].Y = n, n
				for _, points := range [][4]api.Point{first, second} {
					checkFour(t, points, square)
					checkFour(t, square, points)
					checkFour(t, points, [4]api.Point{})
					checkFour(t, [4]api.Point{}, points)
				}
			}
		}
	}
}

// P12.6: the greatest number of the result is at its limit, or just beyond it, with each sign. A parallelogram with that
// area, whose sides have no common divisor, is taken to the unit square.
func TestLimitsOfFour(t *testing.T) {
	for low, want := range map[int]api.Errno{-1: api.ErrRange, 0: api.OK, 1: api.OK} {
		from := [4]api.Point{{}, {X: 1 << 15, Y: low}, {X: 1<<15 + 1, Y: 1<<15 + low}, {X: 1, Y: 1 << 15}}
		if e := checkFour(t, from, unit); e != want {
			t.Errorf("Four(%v) returns the error %d, want %d", from, e, want)
		}
		mirrored := [4]api.Point{{}, {Y: 1}, {X: -1, Y: 1}, {X: -1}}
		if e := checkFour(t, from, mirrored); e != want {
			t.Errorf("Four(%v, %v) returns the error %d, want %d", from, mirrored, e, want)
		}
		for i := range from {
			from[i].X *= -1
		}
		if e := checkFour(t, from, unit); e != want {
			t.Errorf("Four(%v) returns the error %d, want %d", from, e, want)
		}
	}
}

// P12.6 and P12.8: the points in the other order of lists lead to the inverse.
func TestFourAndInverse(t *testing.T) {
	source := rand.New(rand.NewSource(21))
	compared := 0
	for range 500 {
		from, to := randomPoints(source, 20), randomPoints(source, 20)
		p, e1 := Four(from, to)
		q, e2 := Four(to, from)
		if e1 != api.OK || e2 != api.OK {
			continue
		}
		compared++
		back, e := Inverse(p)
		checkProj(t, "Inverse of Four", back, e, q, api.OK)
	}
	if compared < 200 {
		t.Errorf("only %d inverses were compared", compared)
	}
}
