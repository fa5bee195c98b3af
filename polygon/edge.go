package polygon

import (
	"cmp"
	"iter"
	"slices"

	"skymosaic/api"
)

// edge is a segment between two vertices, in the direction of its ring.
type edge struct{ from, to api.Point }

// edges yields the edges of rings, in order.
func edges(rings ...[]api.Point) iter.Seq[edge] {
	return func(yield func(edge) bool) {
		for _, ring := range rings {
			for i, vertex := range ring {
				if !yield(edge{vertex, ring[(i+1)%len(ring)]}) {
					return
				}
			}
		}
	}
}

// conflicts tells whether two edges, neither of which has equal ends, have a common point that is not the vertex between
// neighbors. Edges that meet like neighbors, but at a vertex that is there twice, pass here; the two that end there do not.
func (e edge) conflicts(other edge) bool {
	if other.to == e.from {
		e, other = other, e
	}
	if e.to == other.from {
		return isFolded(e.from, e.to, other.to)
	}
	return e.meets(other)
}

// isFolded tells whether the way from a over b to c goes back on itself.
func isFolded(a, b, c api.Point) bool {
	return turn(a, b, c) == 0 && (a.X-b.X)*(c.X-b.X)+(a.Y-b.Y)*(c.Y-b.Y) > 0
}

// meets tells whether two segments have a common point. If neither has both its ends on one side of the line of the other
// one, the segments meet, or all is on one line; then they meet if their boxes do.
func (e edge) meets(other edge) bool {
	return overlap(e.from.X, e.to.X, other.from.X, other.to.X) && overlap(e.from.Y, e.to.Y, other.from.Y, other.to.Y) &&
		!e.isBeside(other) && !other.isBeside(e)
}

// isBeside tells whether a segment has both ends on the same side of the line through the ends of another one.
func (e edge) isBeside(other edge) bool {
	return turn(other.from, other.to, e.from)*turn(other.from, other.to, e.to) > 0
}

// overlap tells whether a number is between a and b as well as between c and d.
func overlap(a, b, c, d int) bool {
	return min(a, b) <= max(c, d) && min(c, d) <= max(a, b)
}

// Turn returns the sign of the turn from a over b to c.
func Turn(a, b, c api.Point) int {
	if !areInRange(a, b, c) {
		return 0
	}
	return turn(a, b, c)
}

// turn is Turn for points in range, whose products have at most 42 digits.
func turn(a, b, c api.Point) int {
	return cmp.Compare((b.X-a.X)*(c.Y-a.Y), (b.Y-a.Y)*(c.X-a.X))
}

// Cross reports whether two segments have a common point.
func Cross(a, b, c, d api.Point) bool {
	return areInRange(a, b, c, d) && edge{a, b}.meets(edge{c, d})
}

// areInRange tells whether all coordinates are coordinates of a map.
func areInRange(points ...api.Point) bool {
	return !slices.ContainsFunc(points, func(p api.Point) bool {
		return min(p.X, p.Y) < -api.MaxCoord || max(p.X, p.Y) > api.MaxCoord
	})
}
