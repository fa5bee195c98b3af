package polygon

import (
	"math"
	"math/rand"
	"slices"
	"strconv"
	"testing"

	"skymosaic/api"
	"skymosaic/frac"
)

// P13.1: shapes of one ring.
func TestRings(t *testing.T) {
	for _, v := range []struct {
		text string
		want api.Errno
	}{
		{"0 0, 1 0, 0 1", api.OK},
		{"0 0, 0 1, 1 0", api.OK},
		{"0 0, 2 0, 2 2, 0 2", api.OK},
		{"0 0, 4 0, 1 1, 0 4", api.OK},
		{"0 0, 1 0, 2 0, 2 2, 2 3, 0 3, 0 1", api.OK},
		{"1 0, 2 0, 2 2, 0 2, 0 0", api.OK},
		{"0 0, 2 2, 2 0, 0 2", api.ErrFlat}, // the chapter's example
		{"0 0, 1 0, 2 0", api.ErrFlat},
		{"0 0, 2 0, 1 0", api.ErrFlat},
		{"0 0, 0 0, 0 0", api.ErrFlat},
		{"0 0, 1 0, 1 0", api.ErrFlat},
		{"0 0, 0 0, 1 0, 0 1", api.ErrFlat},
		{"0 0, 1 0, 1 0, 0 1", api.ErrFlat},
		{"0 0, 1 0, 0 1, 0 0", api.ErrFlat},
		{"0 0, 1 0, 0 0, 1 0", api.ErrFlat},
		{"0 0, 1 0, 0 0, 0 1", api.ErrFlat},
		{"0 0, 4 0, 2 0, 2 2", api.ErrFlat},                     // back from the first edge
		{"2 0, 2 2, 0 0, 4 0", api.ErrFlat},                     // the last edge comes back
		{"2 2, 0 0, 4 0, 2 0", api.ErrFlat},                     // the first one begins behind it
		{"0 0, 4 0, 4 4, 4 6, 4 2, 0 2", api.ErrFlat},           // back in the middle
		{"0 0, 4 4, 6 6, 3 3, 0 3", api.ErrFlat},                // back on a slope
		{"0 0, 4 0, 4 4, 2 2, 0 4, 2 2", api.ErrFlat},           // a vertex twice
		{"2 2, 0 0, 4 0, 2 2, 4 4, 0 4", api.ErrFlat},           // a vertex twice, crossing
		{"0 0, 4 0, 2 2, 4 4, 0 4, 2 2", api.ErrFlat},           // a vertex twice, without crossing
		{"0 0, 4 0, 4 4, 2 0, 0 4", api.ErrFlat},                // a vertex on an edge
		{"0 0, 2 4, 4 0, 4 4, 0 4", api.ErrFlat},                // another one
		{"0 0, 4 0, 4 4, 0 2, 0 4, -1 4, -1 1, 0 1", api.OK},    // next to each other
		{"0 0, 4 0, 4 4, 0 2, 0 4, 0 1, -1 1", api.ErrFlat},     // edges have a part in common
		{"0 0, 6 0, 6 3, 3 1, 3 4, 0 4", api.OK},                // concave
		{"0 0, 6 0, 6 3, 3 -1, 3 4, 0 4", api.ErrFlat},          // too far
		{"0 0, 3 0, 3 3, 1 3, 1 1, 2 1, 2 2, 0 2", api.ErrFlat}, // a spiral that crosses itself
		{"0 0, 4 0, 4 4, 1 4, 1 2, 2 2, 2 3, 3 3, 3 1, 0 1", api.OK},
		{"0 0, 4 0, 4 4, 1 4, 1 1, 2 1, 2 3, 3 3, 3 1, 0 1", api.ErrFlat},
	} {
		p := polygonOf(v.text)
		if own := validity(p); own != v.want {
			t.Fatalf("the model says %d for %s", own, v.text)
		}
		checkShapes(t, p, v.want)
	}
}

// checkShapes checks a polygon of one ring, and the same from all vertices on, in both directions, mirrored, and with x and
// y exchanged.
func checkShapes(t *testing.T, p api.Polygon, want api.Errno) {
	t.Helper()
	for range 2 {
		for range p.Rings[0] {
			exchanged := cloned(p)
			for i, at := range exchanged.Rings[0] {
				exchanged.Rings[0][i] = api.Point{X: at.Y, Y: at.X}
			}
			for _, sign := range []int{-1, 1} {
				checkValid(t, moved(p, sign, 1, api.Point{}), want)
				checkValid(t, moved(exchanged, 70000, 70000*sign, api.Point{X: 3, Y: 5}), want)
			}
			p.Rings[0] = slices.Concat(p.Rings[0][1:], p.Rings[0][:1])
		}
		slices.Reverse(p.Rings[0])
	}
}

// P13.1: several rings.
func TestHoles(t *testing.T) {
	const square = "0 0, 9 0, 9 9, 0 9; "
	for _, v := range []struct {
		text string
		want api.Errno
	}{
		{square + "1 1, 2 1, 1 2", api.OK},
		{square + "1 1, 1 2, 2 1", api.OK},
		{square + "1 1, 2 1, 1 2; 3 3, 3 4, 4 3; 6 1, 6 2, 7 1", api.OK},
		{square + "0 0, 2 1, 1 2", api.ErrFlat},                               // a common vertex
		{square + "0 3, 2 1, 1 2", api.ErrFlat},                               // a vertex on an edge
		{square + "0 1, 0 2, 2 1", api.ErrFlat},                               // an edge on an edge
		{square + "0 0, 9 0, 9 9, 0 9", api.ErrFlat},                          // the same
		{square + "0 9, 9 9, 9 0, 0 0", api.ErrFlat},                          // the same, turned
		{square + "1 1, 10 5, 1 8", api.ErrFlat},                              // partly outside
		{square + "10 1, 12 1, 10 3", api.ErrFlat},                            // outside
		{square + "-3 1, -2 1, -3 3", api.ErrFlat},                            // outside, on the other side
		{square + "1 10, 2 10, 1 12", api.ErrFlat},                            // above
		{square + "1 -3, 2 -3, 1 -2", api.ErrFlat},                            // below
		{square + "-1 -1, 10 -1, 10 10, -1 10", api.ErrFlat},                  // around it
		{square + "1 1, 6 1, 1 6; 2 2, 3 2, 2 3", api.ErrFlat},                // a hole in the hole before
		{square + "2 2, 3 2, 2 3; 1 1, 6 1, 1 6", api.ErrFlat},                // a hole in the next one
		{square + "1 1, 6 1, 1 6; 7 7, 8 7, 8 8; 2 2, 3 2, 2 3", api.ErrFlat}, // a hole in the one before the last
		{square + "1 1, 8 1, 1 8; 2 2, 5 2, 2 5; 3 3, 4 3, 3 4", api.ErrFlat}, // a hole in a hole in a hole
		{square + "1 1, 3 1, 1 3; 3 1, 3 3, 5 3", api.ErrFlat},                // holes with a common vertex
		{square + "1 1, 3 1, 1 3; 1 1, 3 1, 1 3", api.ErrFlat},                // twice the same one
		{square + "1 1, 5 1, 1 5; 3 3, 5 5, 5 3", api.ErrFlat},                // a vertex on an edge
		{square + "1 1, 5 1, 1 5; 2 2, 6 2, 6 3", api.ErrFlat},                // crossing
		{square + "1 1, 5 5, 5 1, 1 5", api.ErrFlat},                          // not simple
		{square + "1 1, 2 1, 3 1", api.ErrFlat},
		{square + "1 1, 2 1, 2 1", api.ErrFlat},
		{"0 0, 9 9, 9 0, 0 9; 1 2, 1 3, 2 3", api.ErrFlat},
		{"1 1, 2 1, 1 2; 0 0, 9 0, 9 9, 0 9", api.ErrFlat},
		{"0 0, 9 0, 9 9, 8 9, 8 1, 1 1, 1 9, 0 9; 4 4, 5 4, 4 5", api.ErrFlat}, // in a bay
		{"0 0, 9 0, 9 9, 5 1, 0 9; 1 1, 2 1, 1 2; 8 1, 7 1, 8 2", api.OK},      // on both sides of one
		{"0 0, 9 0, 9 9, 5 1, 0 9; 1 1, 2 1, 1 2; 5 3, 5 4, 6 5", api.ErrFlat},
		{"0 0, 4 0, 8 0, 8 4, 8 8, 4 8, 0 8, 0 4; 3 4, 4 3, 5 4, 4 5", api.OK}, // all vertices of the hole beside ones of the ring
		{"0 0, 4 4, 8 0, 9 9, 4 5, 0 9; 3 4, 2 3, 2 5", api.OK},
		{"0 0, 4 4, 8 0, 9 9, 4 5, 0 9; 4 2, 4 3, 3 1", api.ErrFlat},
	} {
		p := polygonOf(v.text)
		if own := validity(p); own != v.want {
			t.Fatalf("the model says %d for %s", own, v.text)
		}
		source := rand.New(rand.NewSource(1))
		for range 20 {
			checkValid(t, moved(shuffled(source, p), 1-2*source.Intn(2), 1-2*source.Intn(2), randomPoint(source, 1000)), v.want)
		}
	}
}

// P13.1: small polygons, most of which are not valid.
func TestSmallPolygons(t *testing.T) {
	source := rand.New(rand.NewSource(2))
	count := map[api.Errno]int{}
	for range 20000 {
		p := api.Polygon{}
		for range 1 + source.Intn(2)*source.Intn(3) {
			ring := []api.Point{}
			for range 3 + source.Intn(4) {
				ring = append(ring, randomPoint(source, 1+source.Intn(3)))
			}
			p.Rings = append(p.Rings, ring)
		}
		want := validity(p)
		checkValid(t, p, want)
		count[want]++
	}
	if count[api.OK] < 1500 || count[api.ErrFlat] < 1500 {
		t.Errorf("there are %v results", count)
	}
}

// P13.1: valid polygons, and the same after one vertex was moved.
func TestMovedVertices(t *testing.T) {
	source := rand.New(rand.NewSource(3))
	count := map[api.Errno]int{}
	for range 400 {
		p := mixed(source)
		checkValid(t, p, api.OK)
		for range 5 {
			q := shuffled(source, p)
			ring := q.Rings[source.Intn(len(q.Rings))]
			other := q.Rings[source.Intn(len(q.Rings))]
			to := other[source.Intn(len(other))]
			to.X += source.Intn(3) - 1
			to.Y += source.Intn(3) - 1
			ring[source.Intn(len(ring))] = to
			want := validity(q)
			checkValid(t, q, want)
			count[want]++
		}
	}
	if count[api.OK] < 300 || count[api.ErrFlat] < 300 {
		t.Errorf("there are %v results", count)
	}
}

// P13.1: exact at the greatest distances.
func TestGreatDistances(t *testing.T) {
	const m = 1 << 20
	for _, v := range []struct {
		ring []api.Point
		want api.Errno
	}{
		{[]api.Point{{X: -m, Y: -m}, {X: m, Y: -m}, {X: m, Y: m}, {X: -m, Y: m}}, api.OK},
		{[]api.Point{{X: -m, Y: -m}, {X: m, Y: m}, {X: 0, Y: 0}}, api.ErrFlat},
		{[]api.Point{{X: -m, Y: -m}, {X: m, Y: m}, {X: 0, Y: 1}}, api.OK},
		{[]api.Point{{X: -m, Y: -m}, {X: m, Y: m - 1}, {X: 0, Y: 0}}, api.OK},
		{[]api.Point{{X: -m, Y: -m}, {X: m, Y: m - 1}, {X: m - 1, Y: m - 2}}, api.OK},
		{[]api.Point{{X: -m, Y: -m}, {X: m, Y: m - 1}, {X: m, Y: m}, {X: 0, Y: 0}}, api.OK},
		{[]api.Point{{X: -m, Y: -m}, {X: m, Y: m - 1}, {X: m, Y: m}, {X: -1, Y: -1}, {X: 1, Y: 0}}, api.ErrFlat},
		{[]api.Point{{X: -m, Y: m}, {X: -m, Y: -m}, {X: m, Y: m - 1}, {X: m, Y: m}, {X: 1 - m, Y: 1 - m}}, api.OK},
		{[]api.Point{{X: -m, Y: m}, {X: -m, Y: -m}, {X: m, Y: m}, {X: m - 1, Y: m}, {X: -1, Y: -1}}, api.ErrFlat},
	} {
		p := api.Polygon{Rings: [][]api.Point{v.ring}}
		if own := validity(p); own != v.want {
			t.Fatalf("the model says %d for %v", own, v.ring)
		}
		checkValid(t, p, v.want)
	}
}

// columns returns a valid polygon: a square around triangles, so many of them, with so many vertices in all.
func columns(holes, vertices int) api.Polygon {
	outer := []api.Point{{X: 0, Y: 0}, {X: 1000, Y: 0}, {X: 1000, Y: 1000}}
	for i := len(outer) + 3*holes; i < vertices; i++ {
		outer = append(outer, api.Point{X: 1000 - i, Y: 1000})
	}
	p := api.Polygon{Rings: [][]api.Point{outer}}
	for i := range holes {
		x := 900 + 5*i
		p.Rings = append(p.Rings, []api.Point{{X: x, Y: 1}, {X: x + 1, Y: 1}, {X: x, Y: 2}})
	}
	return p
}

// P13.1: the numbers of rings and vertices at their limits and just beyond them.
func TestLimitsOfNumbers(t *testing.T) {
	for _, v := range []struct {
		p    api.Polygon
		want api.Errno
	}{
		{api.Polygon{}, api.ErrArg},
		{api.Polygon{Rings: [][]api.Point{}}, api.ErrArg},
		{api.Polygon{Rings: [][]api.Point{nil}}, api.ErrArg},
		{polygonOf("0 0"), api.ErrArg},
		{polygonOf("0 0, 1 0"), api.ErrArg},
		{polygonOf("0 0, 9 0, 9 9; 2 1, 3 1"), api.ErrArg},
		{polygonOf("2 1, 3 1; 0 0, 9 0, 9 9"), api.ErrArg},
		{columns(0, 4), api.OK}, {columns(0, 255), api.OK}, {columns(0, 256), api.OK}, {columns(0, 257), api.ErrLimit},
		{columns(15, 49), api.OK}, {columns(15, 256), api.OK}, {columns(15, 257), api.ErrLimit}, {columns(1, 300), api.ErrLimit},
		{columns(16, 60), api.ErrArg}, {columns(17, 60), api.ErrArg}, {columns(100, 1), api.ErrArg},
		{api.Polygon{Rings: slices.Repeat([][]api.Point{make([]api.Point, 16)}, 16)}, api.ErrFlat},
		{api.Polygon{Rings: append(slices.Repeat([][]api.Point{make([]api.Point, 16)}, 15), make([]api.Point, 17))}, api.ErrLimit},
		{api.Polygon{Rings: slices.Repeat([][]api.Point{make([]api.Point, 200)}, 17)}, api.ErrArg},
		{api.Polygon{Rings: [][]api.Point{make([]api.Point, 300), make([]api.Point, 2)}}, api.ErrArg},
	} {
		if own := validity(v.p); own != v.want {
			t.Fatalf("the model says %d for %v", own, v.p.Rings)
		}
		checkValid(t, v.p, v.want)
	}
}

// P13.1: each coordinate of each vertex at its limits and just beyond them.
func TestLimitsOfCoordinates(t *testing.T) {
	const m = 1 << 20
	greatest := api.Polygon{Rings: [][]api.Point{
		{{X: -m, Y: -m}, {X: m, Y: -m}, {X: m, Y: m}, {X: -m, Y: m}}, {{X: 1 - m, Y: 1 - m}, {X: m - 1, Y: 1 - m}, {X: 0, Y: m - 1}}}}
	checkValid(t, greatest, api.OK)
	for _, n := range []int{m + 1, -m - 1, m + 2, 1 << 32, -1 << 32, math.MaxInt, math.MinInt, 1<<32 + 1} {
		for i, ring := range greatest.Rings {
			for k := range ring {
				for axis := range 2 {
					p := cloned(greatest)
					*[]*int{&p.Rings[i][k].X, &p.Rings[i][k].Y}[axis] = n
					checkValid(t, p, api.ErrRange)
				}
			}
		}
	}
}

// P13.1: if several errors apply, the first one is returned.
func TestOrderOfErrors(t *testing.T) {
	far := api.Point{X: math.MaxInt, Y: math.MinInt}
	for _, v := range []struct {
		p    api.Polygon
		want api.Errno
	}{
		{api.Polygon{Rings: [][]api.Point{slices.Repeat([]api.Point{far}, 257), {far, far}}}, api.ErrArg},
		{api.Polygon{Rings: slices.Repeat([][]api.Point{slices.Repeat([]api.Point{far}, 17)}, 17)}, api.ErrArg},
		{api.Polygon{Rings: slices.Repeat([][]api.Point{slices.Repeat([]api.Point{far}, 17)}, 16)}, api.ErrLimit},
		{api.Polygon{Rings: slices.Repeat([][]api.Point{slices.Repeat([]api.Point{far}, 16)}, 16)}, api.ErrRange},
		{api.Polygon{Rings: [][]api.Point{{{}, {}, {}}, {{}, {}, far}}}, api.ErrRange},
		{api.Polygon{Rings: [][]api.Point{{{}, {X: 1}, {Y: 1}}, {{X: 5}, {X: 6}, {X: 5, Y: 1}}, {{}, {}, {X: 1 << 21}}}}, api.ErrRange},
		{api.Polygon{Rings: [][]api.Point{{{}, {X: 1}, {Y: 1}}, {{X: 5}, {X: 6}, {X: 5, Y: 1}}}}, api.ErrFlat},
	} {
		checkValid(t, v.p, v.want)
	}
}

// wrong returns a polygon for each error of Valid.
func wrong() map[api.Errno]api.Polygon {
	return map[api.Errno]api.Polygon{
		api.ErrArg: {}, api.ErrLimit: columns(0, 257), api.ErrRange: Rect(0, 0, 1<<20+1, 1), api.ErrFlat: Rect(0, 0, 1, 0)}
}

// P13.1: the other functions return the error of Valid, ahead of their own ones, and zeros.
func TestErrorsOfOthers(t *testing.T) {
	good := Rect(0, 0, 1, 1)
	long := fracOf(ratio(power2(1024, 0), power2(0, 0)))
	for want, p := range wrong() {
		checkValid(t, p, want)
		if area, e := Area2(p); area != 0 || e != want {
			t.Errorf("Area2(%v) = %d, %d, want 0, %d", p.Rings, area, e, want)
		}
		if least, greatest, e := Box(p); least != (api.Point{}) || greatest != (api.Point{}) || e != want {
			t.Errorf("Box(%v) = %v, %v, %d, want zeros, %d", p.Rings, least, greatest, e, want)
		}
		if q, e := Normal(p); len(q.Rings) != 0 || e != want {
			t.Errorf("Normal(%v) = %v, %d, want no rings, %d", p.Rings, q.Rings, e, want)
		}
		for _, u := range []frac.Frac{{}, long} {
			if has, e := Has(p, u, u); has || e != want {
				t.Errorf("Has(%v, %.20v) = %t, %d, want false, %d", p.Rings, u, has, e, want)
			}
			if side, e := Side(p, u, u); side != 0 || e != want {
				t.Errorf("Side(%v, %.20v) = %d, %d, want 0, %d", p.Rings, u, side, e, want)
			}
		}
		for _, other := range append([]api.Polygon{good}, wrong()[api.ErrArg], wrong()[api.ErrRange], wrong()[api.ErrFlat]) {
			if same, e := Same(p, other); same || e != want {
				t.Errorf("Same(%v, %v) = %t, %d, want false, %d", p.Rings, other.Rings, same, e, want)
			}
		}
		if same, e := Same(good, p); same || e != want {
			t.Errorf("Same(%v, %v) = %t, %d, want false, %d", good.Rings, p.Rings, same, e, want)
		}
	}
}

// P13.6.
func TestRect(t *testing.T) {
	for _, v := range []struct{ x, y, w, h, right, top int }{
		{0, 0, 2, 2, 2, 2}, {3, -4, 10, 20, 13, 16}, {0, 0, 0, 0, 0, 0}, {5, 6, -7, -8, -2, -2},
		{math.MaxInt, 1, 1, math.MaxInt, math.MinInt, math.MinInt}, {math.MinInt, -2, -1, math.MinInt, math.MaxInt, math.MaxInt - 1},
		{math.MaxInt, math.MinInt, math.MaxInt, math.MinInt, -2, 0},
	} {
		want := api.Polygon{Rings: [][]api.Point{{{X: v.x, Y: v.y}, {X: v.right, Y: v.y}, {X: v.right, Y: v.top}, {X: v.x, Y: v.top}}}}
		if got := Rect(v.x, v.y, v.w, v.h); !areEqual(got, want) {
			t.Errorf("Rect(%s) = %v, want %v", strconv.Itoa(v.x), got.Rings, want.Rings)
		}
	}
	if p := Rect(0, 0, 1, 1); Valid(p) != api.OK {
		t.Errorf("Valid(%v) is not OK", p.Rings)
	}
	Rect(1, 2, 3, 4).Rings[0][0].X = 99
	if p := Rect(1, 2, 3, 4); p.Rings[0][0].X != 1 {
		t.Errorf("rectangles share memory: %v", p.Rings)
	}
}
