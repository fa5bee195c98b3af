package polygon

import (
	"math"
	"math/rand"
	"testing"

	"skymosaic/api"
)

func checkTurn(t *testing.T, a, b, c api.Point) {
	t.Helper()
	if got, want := Turn(a, b, c), cross(spotOf(a), spotOf(b), spotOf(c)).Sign(); got != want {
		t.Fatalf("Turn(%v, %v, %v) = %d, want %d", a, b, c, got, want)
	}
}

// checkCross checks Cross with the ends of the segments and the segments in all orders, and returns the result.
func checkCross(t *testing.T, a, b, c, d api.Point) bool {
	t.Helper()
	want := len(common(spotOf(a), spotOf(b), spotOf(c), spotOf(d))) > 0
	for _, v := range [][4]api.Point{{a, b, c, d}, {b, a, c, d}, {a, b, d, c}, {b, a, d, c}, {c, d, a, b}, {d, c, a, b}, {c, d, b, a}, {d, c, b, a}} {
		if got := Cross(v[0], v[1], v[2], v[3]); got != want {
			t.Fatalf("Cross%v = %t, want %t", v, got, want)
		}
	}
	return want
}

// P13.4.
func TestTurn(t *testing.T) {
	source := rand.New(rand.NewSource(20))
	for range 3000 {
		most := []int{1, 2, 5, 1000, 1 << 20}[source.Intn(5)]
		checkTurn(t, randomPoint(source, most), randomPoint(source, most), randomPoint(source, most))
	}
	for _, v := range []struct {
		a, b, c api.Point
		want    int
	}{
		{api.Point{}, api.Point{X: 1}, api.Point{Y: 1}, 1}, {api.Point{}, api.Point{Y: 1}, api.Point{X: 1}, -1},
		{api.Point{}, api.Point{X: 1, Y: 1}, api.Point{X: 5, Y: 5}, 0}, {api.Point{X: 3, Y: 4}, api.Point{X: 3, Y: 4}, api.Point{X: 1}, 0},
	} {
		if got := Turn(v.a, v.b, v.c); got != v.want {
			t.Errorf("Turn(%v, %v, %v) = %d, want %d", v.a, v.b, v.c, got, v.want)
		}
	}
}

// P13.4: nearly no turn, at the greatest distances.
func TestSlightTurns(t *testing.T) {
	const m = 1 << 20
	for dx := -2; dx <= 2; dx++ {
		for dy := -2; dy <= 2; dy++ {
			middle := api.Point{X: dx, Y: dy}
			for _, ends := range [][2]api.Point{{{X: -m, Y: -m}, {X: m, Y: m}}, {{X: -m, Y: m}, {X: m, Y: -m}}, {{X: -m, Y: -m}, {X: m, Y: m - 1}}, {{X: 1 - m, Y: m}, {X: m, Y: -m}}} {
				checkTurn(t, ends[0], middle, ends[1])
				checkTurn(t, ends[0], ends[1], middle)
				checkTurn(t, middle, ends[1], ends[0])
				checkCross(t, ends[0], ends[1], middle, middle)
				checkCross(t, ends[0], ends[1], middle, api.Point{X: m, Y: -m})
				checkCross(t, ends[0], middle, ends[1], api.Point{})
			}
		}
	}
}

// P13.4: all segments of a small grid, with equal ends or not.
func TestSmallSegments(t *testing.T) {
	points := []api.Point{}
	for x := range 3 {
		for y := range 3 {
			points = append(points, api.Point{X: x, Y: y})
		}
	}
	for i, a := range points {
		for _, b := range points[i:] {
			for j, c := range points[i:] {
				for _, d := range points[i+j:] {
					checkCross(t, a, b, c, d)
				}
			}
		}
	}
}

// P13.4.
func TestCross(t *testing.T) {
	source := rand.New(rand.NewSource(21))
	count := map[bool]int{}
	for range 5000 {
		most := []int{3, 5, 9, 100, 1 << 20}[source.Intn(5)]
		a, b, c, d := randomPoint(source, most), randomPoint(source, most), randomPoint(source, most), randomPoint(source, most)
		count[checkCross(t, a, b, c, d)]++
	}
	if count[true] < 1000 || count[false] < 1000 {
		t.Errorf("there are %v results", count)
	}
	for range 1000 { // on one line
		from, step := randomPoint(source, 1000), randomPoint(source, 9)
		at := [4]api.Point{}
		for i := range at {
			n := source.Intn(9)
			at[i] = api.Point{X: from.X + n*step.X, Y: from.Y + n*step.Y}
		}
		checkCross(t, at[0], at[1], at[2], at[3])
	}
}

// P13.4: each coordinate at its limits and just beyond them.
func TestLimitsOfPoints(t *testing.T) {
	const m = 1 << 20
	triangle := [3]api.Point{{X: -m, Y: -m}, {X: m, Y: -m}, {X: m, Y: m}}
	segments := [4]api.Point{{X: -m, Y: -m}, {X: m, Y: m}, {X: m, Y: -m}, {X: -m, Y: m}}
	if Turn(triangle[0], triangle[1], triangle[2]) != 1 || !Cross(segments[0], segments[1], segments[2], segments[3]) {
		t.Errorf("Turn is not 1, or Cross is not true, for the corners of the map")
	}
	for _, n := range []int{m + 1, -m - 1, m + 2, 1 << 31, 1 << 32, -1 << 32, math.MaxInt, math.MinInt} {
		for axis := range 2 {
			for i := range triangle {
				at := triangle
				*[]*int{&at[i].X, &at[i].Y}[axis] = n
				if got := Turn(at[0], at[1], at[2]); got != 0 {
					t.Errorf("Turn%v = %d, want 0", at, got)
				}
			}
			for i := range segments {
				at := segments
				*[]*int{&at[i].X, &at[i].Y}[axis] = n
				if Cross(at[0], at[1], at[2], at[3]) {
					t.Errorf("Cross%v = true, want false", at)
				}
			}
		}
	}
	far := api.Point{X: m + 1}
	if Cross(far, far, far, far) || Cross(far, api.Point{}, api.Point{}, api.Point{}) {
		t.Errorf("Cross is true beyond the map")
	}
}
