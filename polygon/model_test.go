package polygon

import (
	"math/big"
	"math/rand"
	"slices"
	"strings"
	"testing"

	"skymosaic/api"
	"skymosaic/frac"
)

// spot is a point of the plane.
type spot struct{ x, y *big.Rat }

func rational(n int) *big.Rat {
	return new(big.Rat).SetInt64(int64(n))
}

func spotOf(p api.Point) spot {
	return spot{rational(p.X), rational(p.Y)}
}

func (s spot) String() string {
	return "(" + s.x.RatString() + ", " + s.y.RatString() + ")"
}

func minus(a, b *big.Rat) *big.Rat {
	return new(big.Rat).Sub(a, b)
}

func plus(a, b *big.Rat) *big.Rat {
	return new(big.Rat).Add(a, b)
}

func times(a, b *big.Rat) *big.Rat {
	return new(big.Rat).Mul(a, b)
}

// on returns the point s + t * (to - s).
func (s spot) on(to spot, t *big.Rat) spot {
	return spot{plus(s.x, times(t, minus(to.x, s.x))), plus(s.y, times(t, minus(to.y, s.y)))}
}

// cross is (b - a) x (c - a).
func cross(a, b, c spot) *big.Rat {
	return minus(times(minus(b.x, a.x), minus(c.y, a.y)), times(minus(b.y, a.y), minus(c.x, a.x)))
}

func isEqual(a, b spot) bool {
	return a.x.Cmp(b.x) == 0 && a.y.Cmp(b.y) == 0
}

// isBetween tells whether a point is on a segment: the only multiple of the segment that it can be is one from 0 to 1.
func isBetween(a, b, at spot) bool {
	if isEqual(a, b) {
		return isEqual(a, at)
	}
	t := new(big.Rat)
	if a.x.Cmp(b.x) != 0 {
		t.Quo(minus(at.x, a.x), minus(b.x, a.x))
	} else {
		t.Quo(minus(at.y, a.y), minus(b.y, a.y))
	}
	return t.Sign() >= 0 && t.Cmp(rational(1)) <= 0 && isEqual(a.on(b, t), at)
}

// common returns the common points of two segments: none, the only one, or two of more.
func common(a, b, c, d spot) []spot {
	found := []spot{}
	add := func(s spot) {
		if !slices.ContainsFunc(found, func(other spot) bool { return isEqual(s, other) }) {
			found = append(found, s)
		}
	}
	for _, end := range []spot{a, b} {
		if isBetween(c, d, end) {
			add(end)
		}
	}
	for _, end := range []spot{c, d} {
		if isBetween(a, b, end) {
			add(end)
		}
	}
	// u x w for the directions u and w of both segments
	below := minus(times(minus(b.x, a.x), minus(d.y, c.y)), times(minus(b.y, a.y), minus(d.x, c.x)))
	if below.Sign() != 0 {
		above := minus(times(minus(c.x, a.x), minus(d.y, c.y)), times(minus(c.y, a.y), minus(d.x, c.x)))
		if at := a.on(b, new(big.Rat).Quo(above, below)); isBetween(a, b, at) && isBetween(c, d, at) {
			add(at)
		}
	}
	return found
}

// isIn is when a point is inside of a ring, word for word.
func isIn(ring []api.Point, at spot) bool {
	number := 0
	for i := range ring {
		a, b := spotOf(ring[i]), spotOf(ring[(i+1)%len(ring)])
		if (a.y.Cmp(at.y) <= 0) != (b.y.Cmp(at.y) <= 0) {
			t := new(big.Rat).Quo(minus(at.y, a.y), minus(b.y, a.y))
			if a.on(b, t).x.Cmp(at.x) > 0 {
				number++
			}
		}
	}
	return number%2 == 1
}

// belongs is when a point belongs to a polygon, word for word.
func belongs(p api.Polygon, at spot) bool {
	number := 0
	for _, ring := range p.Rings {
		if isIn(ring, at) {
			number++
		}
	}
	return number%2 == 1
}

// sideOf is what P13.3 says of Side.
func sideOf(p api.Polygon, at spot) int {
	for _, ring := range p.Rings {
		for i := range ring {
			if isBetween(spotOf(ring[i]), spotOf(ring[(i+1)%len(ring)]), at) {
				return 0
			}
		}
	}
	if belongs(p, at) {
		return 1
	}
	return -1
}

// side is an edge with its position: it is the edge number i of the ring number r, which has so many edges.
type side struct {
	a, b       api.Point
	r, i, size int
}

// isNext tells whether an edge is the next one of another one in its ring.
func (s side) isNext(of side) bool {
	return s.r == of.r && s.i == (of.i+1)%of.size
}

// areBoxesApart spares the exact computation for most pairs of edges.
func areBoxesApart(s, other side) bool {
	return max(s.a.X, s.b.X) < min(other.a.X, other.b.X) || max(s.a.Y, s.b.Y) < min(other.a.Y, other.b.Y)
}

// areEdgesApart is what a valid polygon's edges have to be; edges are neighbors by their positions in a ring.
func areEdgesApart(p api.Polygon) bool {
	sides := []side{}
	for r, ring := range p.Rings {
		for i := range ring {
			sides = append(sides, side{ring[i], ring[(i+1)%len(ring)], r, i, len(ring)})
		}
	}
	for i, s := range sides {
		if s.a == s.b {
			return false
		}
		for _, other := range sides[:i] {
			if areBoxesApart(s, other) || areBoxesApart(other, s) {
				continue
			}
			allowed := []spot{}
			if s.isNext(other) {
				allowed = append(allowed, spotOf(s.a))
			}
			if other.isNext(s) {
				allowed = append(allowed, spotOf(s.b))
			}
			if !slices.EqualFunc(common(spotOf(s.a), spotOf(s.b), spotOf(other.a), spotOf(other.b)), allowed, isEqual) {
				return false
			}
		}
	}
	return true
}

// validity is what P13.1 says. Of holes, all vertices are examined.
func validity(p api.Polygon) api.Errno {
	total := 0
	for _, ring := range p.Rings {
		total += len(ring)
	}
	switch {
	case len(p.Rings) == 0 || len(p.Rings) > 16 || slices.ContainsFunc(p.Rings, func(ring []api.Point) bool { return len(ring) < 3 }):
		return api.ErrArg
	case total > 256:
		return api.ErrLimit
	}
	for _, vertex := range slices.Concat(p.Rings...) {
		for _, n := range []int{vertex.X, vertex.Y} {
			if n < -1048576 || n > 1048576 {
				return api.ErrRange
			}
		}
	}
	if !areEdgesApart(p) {
		return api.ErrFlat
	}
	for i, hole := range p.Rings {
		for k, ring := range p.Rings {
			for _, vertex := range hole {
				if i > 0 && k != i && isIn(ring, spotOf(vertex)) != (k == 0) {
					return api.ErrFlat
				}
			}
		}
	}
	return api.OK
}

// areaOf is twice the area of a ring: the sum of the trapezoids below its edges.
func areaOf(ring []api.Point) int {
	total := 0
	for i, a := range ring {
		b := ring[(i+1)%len(ring)]
		total += (b.X - a.X) * (a.Y + b.Y)
	}
	return max(total, -total)
}

// fracOf returns a fraction that package frac can have.
func fracOf(x *big.Rat) frac.Frac {
	f, e := frac.Parse(x.RatString())
	if e != api.OK {
		panic("no fraction")
	}
	return f
}

func ratio(p, q *big.Int) *big.Rat {
	return new(big.Rat).SetFrac(p, q)
}

func power2(exponent uint, more int64) *big.Int {
	n := new(big.Int).Lsh(big.NewInt(1), exponent)
	return n.Add(n, big.NewInt(more))
}

func randomPoint(source *rand.Rand, most int) api.Point {
	return api.Point{X: source.Intn(2*most+1) - most, Y: source.Intn(2*most+1) - most}
}

// untangled returns a ring of random vertices that are joined in another order as long as edges cross, which makes it
// shorter each time. It need not be simple, because edges can touch.
func untangled(source *rand.Rand, vertices, most int) (ring []api.Point) {
	for range vertices {
		ring = append(ring, randomPoint(source, most))
	}
	for isDone := false; !isDone; {
		isDone = true
		for i := range ring {
			for k := i + 2; k < len(ring); k++ {
				a, b, c, d := spotOf(ring[i]), spotOf(ring[i+1]), spotOf(ring[k]), spotOf(ring[(k+1)%len(ring)])
				if cross(a, b, c).Sign()*cross(a, b, d).Sign() < 0 && cross(c, d, a).Sign()*cross(c, d, b).Sign() < 0 {
					slices.Reverse(ring[i+1 : k+1])
					isDone = false
				}
			}
		}
	}
	return ring
}

// randomPolygon returns a valid polygon with at most so many holes.
func randomPolygon(source *rand.Rand, vertices, holes, most int) api.Polygon {
	p := api.Polygon{}
	for validity(p) != api.OK {
		p.Rings = [][]api.Point{untangled(source, 3+source.Intn(vertices-2), most)}
	}
	for range 3 * holes {
		middle := randomPoint(source, most-most/5)
		hole := untangled(source, 3+source.Intn(3), 1+most/5)
		for i := range hole {
			hole[i].X += middle.X
			hole[i].Y += middle.Y
		}
		more := api.Polygon{Rings: append(slices.Clone(p.Rings), hole)}
		if len(p.Rings) <= holes && validity(more) == api.OK {
			p = more
		}
	}
	return p
}

// mixed returns random polygons of many kinds.
func mixed(source *rand.Rand) api.Polygon {
	return randomPolygon(source, 3+source.Intn(12), source.Intn(4), []int{4, 6, 10, 30, 1000, 1 << 20}[source.Intn(6)])
}

// cloned returns a polygon in other memory.
func cloned(p api.Polygon) (q api.Polygon) {
	for _, ring := range p.Rings {
		q.Rings = append(q.Rings, slices.Clone(ring))
	}
	return q
}

func areEqual(p, q api.Polygon) bool {
	return slices.EqualFunc(p.Rings, q.Rings, slices.Equal[[]api.Point])
}

// polygonOf reads rings like "0 0, 2 0, 0 2; 1 1, ...".
func polygonOf(text string) (p api.Polygon) {
	for ringText := range strings.SplitSeq(text, ";") {
		ring := []api.Point{}
		for vertexText := range strings.SplitSeq(ringText, ",") {
			vertex := api.Point{}
			for i, word := range strings.Fields(vertexText) {
				x, ok := new(big.Int).SetString(word, 10)
				if !ok || !x.IsInt64() {
					panic("no number: " + word)
				}
				*[]*int{&vertex.X, &vertex.Y}[i] = int(x.Int64())
			}
			ring = append(ring, vertex)
		}
		p.Rings = append(p.Rings, ring)
	}
	return p
}

// shuffled returns a polygon with its holes in another order, and each ring from another vertex on and perhaps backward.
func shuffled(source *rand.Rand, p api.Polygon) api.Polygon {
	q := cloned(p)
	source.Shuffle(len(q.Rings)-1, func(i, k int) { q.Rings[i+1], q.Rings[k+1] = q.Rings[k+1], q.Rings[i+1] })
	for i, ring := range q.Rings {
		if source.Intn(2) == 0 {
			slices.Reverse(ring)
		}
		start := source.Intn(len(ring))
		q.Rings[i] = slices.Concat(ring[start:], ring[:start])
	}
	return q
}

// moved returns a polygon with x and y multiplied and then added to.
func moved(p api.Polygon, factorX, factorY int, by api.Point) api.Polygon {
	q := cloned(p)
	for _, ring := range q.Rings {
		for i := range ring {
			ring[i] = api.Point{X: ring[i].X*factorX + by.X, Y: ring[i].Y*factorY + by.Y}
		}
	}
	return q
}

func checkValid(t *testing.T, p api.Polygon, want api.Errno) {
	t.Helper()
	before := cloned(p)
	if e := Valid(p); e != want {
		t.Fatalf("Valid(%v) = %d, want %d", p.Rings, e, want)
	}
	if !areEqual(p, before) {
		t.Fatalf("Valid changes %v to %v", before.Rings, p.Rings)
	}
}
