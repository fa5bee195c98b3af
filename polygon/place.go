package polygon

import (
	"skymosaic/api"
	"skymosaic/frac"
	"skymosaic/wide"
)

// far is beyond all coordinates of vertices.
const far = api.MaxCoord + 1

// place is a point of the plane as edges see it: its coordinates rounded down and up, and the sign of the turn over an edge
// to it.
type place struct {
	low, high api.Point
	turn      func(e edge) int
}

// vertexPlace returns the place of a vertex.
func vertexPlace(p api.Point) place {
	return place{p, p, func(e edge) int { return turn(e.from, e.to, p) }}
}

// placeOf returns the place of (u, v), or the first error of Has and Side.
func placeOf(p api.Polygon, u, v frac.Frac) (place, api.Errno) {
	if e := Valid(p); e != api.OK {
		return place{}, e
	}
	if areLong(u.Num(), u.Den(), v.Num(), v.Den()) {
		return place{}, api.ErrLimit
	}
	left, right := around(u)
	below, above := around(v)
	low, high := api.Point{X: left, Y: below}, api.Point{X: right, Y: above}
	return place{low, high, func(e edge) int { return turnTo(e, u, v) }}, api.OK
}

// areLong tells whether the absolute value of an integer is at least 2^1024.
func areLong(integers ...wide.Int) bool {
	limit := wide.From(1 << 32)
	for range 5 { // from 2^32 to 2^1024
		limit = product(limit, limit)
	}
	for _, n := range integers {
		if wide.Compare(n, limit) >= 0 || wide.Compare(n, wide.Neg(limit)) <= 0 {
			return true
		}
	}
	return false
}

// around returns x rounded down and up, or integers as far on the same side of all vertices.
func around(x frac.Frac) (low, high int) {
	floor, rest, _ := wide.Div(x.Num(), x.Den())
	low, ok := floor.Small()
	if !ok {
		low = far * wide.Sign(floor)
	}
	low = min(low, far) // so that there is an integer above it
	return low, low + wide.Sign(rest)
}

// turnTo returns the sign of the turn over an edge to (u, v), from the two products of Turn, both multiplied by the
// denominators. They have fewer than 2100 digits.
func turnTo(e edge, u, v frac.Frac) int {
	left := product(wide.From(e.to.X-e.from.X), distance(v, e.from.Y), u.Den())
	right := product(wide.From(e.to.Y-e.from.Y), distance(u, e.from.X), v.Den())
	return wide.Compare(left, right)
}

// distance returns x - n, multiplied by the denominator of x.
func distance(x frac.Frac, n int) wide.Int {
	result, _ := wide.Sub(x.Num(), product(wide.From(n), x.Den()))
	return result
}

// product returns the product of integers, none of which is so great that a product is out of range.
func product(first wide.Int, others ...wide.Int) wide.Int {
	for _, factor := range others {
		first, _ = wide.Mul(first, factor)
	}
	return first
}

// isInside tells whether the place is inside of an odd number of rings. As parities add up, all edges are counted at once.
func (p place) isInside(rings ...[]api.Point) bool {
	isOdd := false
	for e := range edges(rings...) {
		if p.isLeftOf(e) {
			isOdd = !isOdd
		}
	}
	return isOdd
}

// isLeftOf tells whether an edge goes past the place, on its right. Upper ends are left out, so that at a vertex between two
// edges only one of them, or both or none if the ring turns back there, goes past.
func (p place) isLeftOf(e edge) bool {
	if e.from.Y > e.to.Y {
		e = edge{e.to, e.from}
	}
	return e.from.Y <= p.low.Y && p.low.Y < e.to.Y && p.turn(e) > 0
}

// isOn tells whether the place is a point of an edge.
func (p place) isOn(e edge) bool {
	return min(e.from.X, e.to.X) <= p.low.X && p.high.X <= max(e.from.X, e.to.X) &&
		min(e.from.Y, e.to.Y) <= p.low.Y && p.high.Y <= max(e.from.Y, e.to.Y) && p.turn(e) == 0
}
