package terrain

import (
	"iter"

	"skymosaic/api"
	"skymosaic/frac"
	"skymosaic/ival"
	"skymosaic/wide"
)

// axis is the nodes of a row or a column of nodes: their coordinates are first, first + step, and so on.
type axis struct{ first, step, nodes int }

// position is where a coordinate lies: in which facet, and how far from its first node, in steps.
type position struct {
	facet int
	part  frac.Frac
}

// axes returns the nodes of a row and of a column.
func axes(t api.Terrain) (x, y axis) {
	return axis{t.X, t.Step, t.Cols}, axis{t.Y, t.Step, t.Rows}
}

// isInRange tells whether all coordinates of nodes are coordinates of the ground. The length is subtracted from the limit,
// because added to any number it could overflow.
func (a axis) isInRange() bool {
	return allBetween(-api.MaxCoord, api.MaxCoord-a.length(), a.first)
}

// length returns the distance from the first node to the last one.
func (a axis) length() int {
	return (a.nodes - 1) * a.step
}

// domain returns the interval from the first node to the last one.
func (a axis) domain() ival.Ival {
	x, _ := ival.Make(whole(a.first), whole(a.first+a.length()))
	return x
}

// position returns where a coordinate of the domain lies: between two facets in the second one, at the end of the domain
// in the last one.
func (a axis) position(x frac.Frac) position {
	distance, _ := frac.Sub(x, whole(a.first))
	steps, _ := frac.Div(distance, whole(a.step))
	floor, _, _ := wide.Div(steps.Num(), steps.Den())
	node, _ := floor.Small()
	facet := min(node, a.nodes-2)
	part, _ := frac.Sub(steps, whole(facet))
	return position{facet, part}
}

// facets yields columns and rows of the facets, borders included, that a box meets.
func facets(t api.Terrain, x, y ival.Ival) iter.Seq2[int, int] {
	across, down := axes(t)
	left, right := across.met(x)
	top, bottom := down.met(y)
	return func(yield func(i, j int) bool) {
		for j := top; j < bottom; j++ {
			for i := left; i < right; i++ {
				if !yield(i, j) {
					return
				}
			}
		}
	}
}

// met returns the first facet that an interval meets, and the one behind the last.
func (a axis) met(x ival.Ival) (from, to int) {
	common, ok := ival.Meet(x, a.domain())
	if !ok {
		return 0, 0
	}
	first, last := a.position(common.Lo()), a.position(common.Hi())
	if first.facet > 0 && frac.Sign(first.part) == 0 { // the border belongs to the facet before, too
		first.facet--
	}
	return first.facet, last.facet + 1
}

// whole returns n as a fraction.
func whole(n int) frac.Frac {
	x, _ := frac.Of(n, 1)
	return x
}
