package polygon

import (
	"math/big"
	"math/rand"
	"slices"
	"testing"

	"skymosaic/api"
)

// checkArea checks Area2 and Box of a valid polygon (P13.2).
func checkArea(t *testing.T, p api.Polygon) int {
	t.Helper()
	before := cloned(p)
	want := 2 * areaOf(p.Rings[0])
	for _, ring := range p.Rings {
		want -= areaOf(ring)
	}
	if area, e := Area2(p); area != want || e != api.OK {
		t.Fatalf("Area2(%v) = %d, %d, want %d, OK", p.Rings, area, e, want)
	}
	across, down := []int{}, []int{}
	for _, vertex := range slices.Concat(p.Rings...) {
		across, down = append(across, vertex.X), append(down, vertex.Y)
	}
	wantLeast := api.Point{X: slices.Min(across), Y: slices.Min(down)}
	wantGreatest := api.Point{X: slices.Max(across), Y: slices.Max(down)}
	if least, greatest, e := Box(p); least != wantLeast || greatest != wantGreatest || e != api.OK {
		t.Fatalf("Box(%v) = %v, %v, %d, want %v, %v, OK", p.Rings, least, greatest, e, wantLeast, wantGreatest)
	}
	if !areEqual(p, before) {
		t.Fatalf("%v was changed to %v", before.Rings, p.Rings)
	}
	return want
}

// P13.2 and P13.10.
func TestAreas(t *testing.T) {
	source := rand.New(rand.NewSource(30))
	for range 500 {
		p := mixed(source)
		area := checkArea(t, p)
		if other := checkArea(t, shuffled(source, p)); other != area {
			t.Fatalf("the areas of %v are %d and %d", p.Rings, area, other)
		}
	}
	const m = 1 << 20
	for _, v := range []struct {
		p    api.Polygon
		want int
	}{
		{Rect(0, 0, 1, 1), 2}, {Rect(-m, -m, 2*m, 2*m), 8 * m * m}, {Rect(m, m, -2*m, -2*m), 8 * m * m}, {Rect(5, 7, -2, 3), 12},
		{polygonOf("0 0, 1 0, 0 1"), 1}, {polygonOf("0 0, 0 1, 1 0"), 1}, {polygonOf("0 0, 9 0, 9 9, 0 9; 1 1, 3 1, 3 3, 1 3; 4 4, 5 5, 5 4"), 153},
		{polygonOf("-3 -3, -1 -3, -1 -1, -3 -1"), 8}, {columns(15, 49), 1048000 - 15},
	} {
		if area := checkArea(t, v.p); area != v.want {
			t.Errorf("the area of %v is %d, want %d", v.p.Rings, area, v.want)
		}
	}
}

// P13.9, where points are counted.
func TestLatticePoints(t *testing.T) {
	source := rand.New(rand.NewSource(31))
	for range 100 {
		p := randomPolygon(source, 12, 3, 9)
		count := map[int]int{}
		for x := -10; x <= 10; x++ {
			for y := -10; y <= 10; y++ {
				side, e := Side(p, fracOf(rational(x)), fracOf(rational(y)))
				if e != api.OK {
					t.Fatalf("Side(%v) returns the error %d", p.Rings, e)
				}
				count[side]++
			}
		}
		if area, e := Area2(p); area != 2*count[1]+count[0]+2*(len(p.Rings)-2) || e != api.OK {
			t.Fatalf("Area2(%v) = %d, %d, but there are %v points", p.Rings, area, e, count)
		}
	}
}

// isLess tells whether a vertex comes before another one.
func isLess(a, b api.Point) bool {
	return a.X < b.X || a.X == b.X && a.Y < b.Y
}

// normalOf is what P13.5 says: of each ring, it tries both directions and all beginnings.
func normalOf(p api.Polygon) (q api.Polygon) {
	for i, ring := range p.Rings {
		for _, isTurned := range []bool{false, true} {
			for start := range ring {
				tried := []api.Point{}
				for k := range ring {
					step := k
					if isTurned {
						step = len(ring) - k
					}
					tried = append(tried, ring[(start+step)%len(ring)])
				}
				sum := 0
				for k, a := range tried {
					b := tried[(k+1)%len(tried)]
					sum += a.X*b.Y - b.X*a.Y
				}
				isLeast := !slices.ContainsFunc(ring, func(other api.Point) bool { return isLess(other, tried[0]) })
				if isLeast && (sum > 0) == (i == 0) {
					q.Rings = append(q.Rings, tried)
				}
			}
		}
	}
	holes := q.Rings[1:]
	for range holes {
		for i := 1; i < len(holes); i++ {
			if isLess(holes[i][0], holes[i-1][0]) {
				holes[i], holes[i-1] = holes[i-1], holes[i]
			}
		}
	}
	return q
}

func checkNormal(t *testing.T, p, want api.Polygon) {
	t.Helper()
	before := cloned(p)
	got, e := Normal(p)
	if !areEqual(got, want) || e != api.OK {
		t.Fatalf("Normal(%v) = %v, %d, want %v, OK", p.Rings, got.Rings, e, want.Rings)
	}
	if !areEqual(p, before) {
		t.Fatalf("Normal changes %v to %v", before.Rings, p.Rings)
	}
	for i, ring := range got.Rings {
		got.Rings[i] = append(ring, api.Point{X: 7})[:len(ring)]
		for k := range ring {
			ring[k] = api.Point{X: 99, Y: 99}
		}
		for _, other := range got.Rings[i+1:] {
			if slices.Contains(other, api.Point{X: 99, Y: 99}) {
				t.Fatalf("the rings of Normal(%v) share memory", p.Rings)
			}
		}
	}
	if !areEqual(p, before) {
		t.Fatalf("Normal(%v) shares memory with its argument", before.Rings)
	}
}

// P13.5 and P13.10.
func TestNormal(t *testing.T) {
	source := rand.New(rand.NewSource(32))
	for range 400 {
		p := mixed(source)
		want := normalOf(p)
		checkNormal(t, p, want)
		checkNormal(t, want, want)
		for range 5 {
			checkNormal(t, shuffled(source, p), want)
		}
	}
	checkNormal(t, polygonOf("9 9, 9 0, 0 0, 0 9; 3 3, 2 4, 3 4; 2 1, 1 2, 2 2; 2 6, 1 5, 2 5"),
		polygonOf("0 0, 9 0, 9 9, 0 9; 1 2, 2 2, 2 1; 1 5, 2 6, 2 5; 2 4, 3 4, 3 3"))
	checkNormal(t, Rect(5, 7, -2, 3), polygonOf("3 7, 5 7, 5 10, 3 10"))
	for range 50 {
		p := shuffled(source, columns(15, 256))
		checkNormal(t, p, normalOf(p))
	}
}

func checkSame(t *testing.T, p, q api.Polygon, want bool) {
	t.Helper()
	first, second := cloned(p), cloned(q)
	for range 2 {
		if same, e := Same(p, q); same != want || e != api.OK {
			t.Fatalf("Same(%v, %v) = %t, %d, want %t, OK", p.Rings, q.Rings, same, e, want)
		}
		p, q = q, p
	}
	if !areEqual(p, first) || !areEqual(q, second) {
		t.Fatalf("Same changes %v, %v to %v, %v", first.Rings, second.Rings, p.Rings, q.Rings)
	}
}

// split returns a polygon with additional vertices on its edges, whose coordinates it multiplies so that there are some.
func split(source *rand.Rand, p api.Polygon, factor int) (q api.Polygon) {
	for _, ring := range moved(p, factor, factor, api.Point{}).Rings {
		longer := []api.Point{}
		for i, a := range ring {
			b := ring[(i+1)%len(ring)]
			longer = append(longer, a)
			for k := 1; k < factor; k++ {
				if source.Intn(2) == 0 {
					longer = append(longer, api.Point{X: a.X + (b.X-a.X)/factor*k, Y: a.Y + (b.Y-a.Y)/factor*k})
				}
			}
		}
		q.Rings = append(q.Rings, longer)
	}
	return q
}

// P13.5: vertices on edges make no difference, wherever a ring begins.
func TestSame(t *testing.T) {
	source := rand.New(rand.NewSource(33))
	for range 400 {
		p := randomPolygon(source, 3+source.Intn(12), source.Intn(4), []int{4, 6, 10, 30, 1000}[source.Intn(5)])
		checkSame(t, p, shuffled(source, p), true)
		factor := 2 + source.Intn(4)
		checkSame(t, shuffled(source, split(source, p, factor)), shuffled(source, split(source, p, factor)), true)
		checkSame(t, moved(p, factor, factor, api.Point{}), shuffled(source, split(source, p, factor)), true)
		checkSame(t, p, moved(p, 1, 1, api.Point{X: source.Intn(2), Y: 1}), false)
		checkSame(t, p, mixed(source), false)
		if last := len(p.Rings) - 1; last > 0 {
			checkSame(t, p, api.Polygon{Rings: p.Rings[:last]}, false)
			checkSame(t, p, api.Polygon{Rings: p.Rings[last:]}, false)
		}
	}
}

// P13.5: polygons that are nearly the same.
func TestNearlySame(t *testing.T) {
	for _, v := range []struct {
		p, q string
		want bool
	}{
		{"0 0, 2 0, 2 2, 0 2", "0 0, 1 0, 2 0, 2 1, 2 2, 1 2, 0 2, 0 1", true},
		{"1 0, 2 0, 2 2, 0 2, 0 1, 0 0", "2 2, 2 0, 0 0, 0 2", true},
		{"0 0, 2 0, 2 2, 0 2", "0 0, 1 0, 2 0, 2 2, 1 3, 0 2", false},
		{"0 0, 4 0, 4 4, 0 4", "0 0, 4 0, 4 4, 1 1", false},
		{"0 0, 4 0, 4 4, 0 4", "0 0, 4 0, 4 4", false},
		{"0 0, 4 0, 4 4, 0 4", "1 0, 4 0, 4 4, 0 4", false},
		{"0 0, 9 0, 9 9, 0 9; 1 1, 2 1, 1 2; 5 5, 6 5, 5 6", "0 0, 9 0, 9 9, 0 9; 5 5, 6 5, 5 6; 1 1, 2 1, 1 2", true},
		{"0 0, 9 0, 9 9, 0 9; 1 1, 2 1, 1 2; 5 5, 6 5, 5 6", "0 0, 9 0, 9 9, 0 9; 5 5, 5 6, 6 5; 2 1, 1 1, 1 2", true},
		{"0 0, 9 0, 9 9, 0 9; 1 1, 2 1, 1 2; 5 5, 6 5, 5 6", "0 0, 9 0, 9 9, 0 9; 1 1, 2 1, 1 2; 5 5, 6 5, 6 6", false},
		{"0 0, 9 0, 9 9, 0 9; 1 1, 3 1, 1 3", "0 0, 9 0, 9 9, 0 9; 1 2, 1 1, 2 1, 3 1, 2 2, 1 3", true},
		{"0 0, 9 0, 9 9, 0 9; 1 1, 3 1, 1 3", "0 0, 9 0, 9 9, 0 9", false},
		{"0 0, 9 0, 9 9, 0 9; 1 1, 3 1, 1 3; 4 4, 5 4, 4 5", "0 0, 9 0, 9 9, 0 9; 1 1, 3 1, 1 3", false},
		{"0 0, 3 0, 6 0, 6 3, 6 6, 3 6, 0 6, 0 3", "0 0, 2 0, 6 0, 6 1, 6 6, 0 6", true},
		{"0 0, 4 0, 0 4", "0 0, 4 0, 2 2, 0 4", true},
		{"0 0, 4 0, 0 4", "0 0, 4 0, 2 1, 0 4", false},
	} {
		checkSame(t, polygonOf(v.p), polygonOf(v.q), v.want)
	}
}

// parts returns both parts of a valid polygon that the segment between two vertices of its first ring divides, and false
// if it does not.
func parts(p api.Polygon, i, k int) (halves [2]api.Polygon, ok bool) {
	ring := p.Rings[0]
	halves[0].Rings = [][]api.Point{slices.Clone(ring[i : k+1])}
	halves[1].Rings = [][]api.Point{slices.Concat(ring[k:], ring[:i+1])}
	for _, hole := range p.Rings[1:] {
		side := 0
		if !isIn(halves[0].Rings[0], spotOf(hole[0])) {
			side = 1
		}
		halves[side].Rings = append(halves[side].Rings, hole)
	}
	if validity(halves[0]) != api.OK || validity(halves[1]) != api.OK {
		return halves, false
	}
	return halves, areaOf(halves[0].Rings[0])+areaOf(halves[1].Rings[0]) == areaOf(ring)
}

// P13.8.
func TestSharedEdges(t *testing.T) {
	source := rand.New(rand.NewSource(34))
	divided := 0
	for range 600 {
		p := split(source, randomPolygon(source, 3+source.Intn(9), source.Intn(4), []int{4, 10, 1000}[source.Intn(3)]), 2)
		i := source.Intn(len(p.Rings[0]))
		k := i + source.Intn(len(p.Rings[0])-i)
		halves, ok := parts(p, i, k)
		if !ok {
			continue
		}
		divided++
		a, b := spotOf(p.Rings[0][i]), spotOf(p.Rings[0][k])
		spots := []spot{a, b, a.on(b, big.NewRat(1, 2)), a.on(b, randomPart(source, 50)), a.on(b, rational(2))}
		for range 30 {
			middle := a.on(b, randomPart(source, 3))
			spots = append(spots, spot{plus(middle.x, big.NewRat(source.Int63n(41)-20, 4)), plus(middle.y, big.NewRat(source.Int63n(41)-20, 4))})
		}
		for _, at := range spots {
			u, v := fracOf(at.x), fracOf(at.y)
			whole, e1 := Has(p, u, v)
			first, e2 := Has(halves[0], u, v)
			second, e3 := Has(halves[1], u, v)
			if e1 != api.OK || e2 != api.OK || e3 != api.OK || first && second || whole != (first || second) {
				t.Fatalf("%v belongs to %v: %t, and to its parts %v: %t, %v: %t", at, p.Rings, whole, halves[0].Rings, first, halves[1].Rings, second)
			}
		}
	}
	if divided < 100 {
		t.Errorf("only %d polygons were divided", divided)
	}
}

// P13.10: which points belong to a polygon.
func TestTurnedRings(t *testing.T) {
	source := rand.New(rand.NewSource(35))
	for range 150 {
		p := randomPolygon(source, 3+source.Intn(9), source.Intn(4), 6)
		q := shuffled(source, p)
		for x := -14; x <= 14; x++ {
			for y := -14; y <= 14; y += 1 + source.Intn(4) {
				u, v := fracOf(big.NewRat(int64(x), 2)), fracOf(big.NewRat(int64(y), 2))
				first, e1 := Has(p, u, v)
				second, e2 := Has(q, u, v)
				side, e3 := Side(p, u, v)
				other, e4 := Side(q, u, v)
				if first != second || side != other || e1 != api.OK || e2 != api.OK || e3 != api.OK || e4 != api.OK {
					t.Fatalf("(%v, %v) is at different sides of %v and %v", u, v, p.Rings, q.Rings)
				}
			}
		}
	}
}
