package sight

import (
	"iter"
	"slices"

	"skymosaic/api"
	"skymosaic/frac"
	"skymosaic/terrain"
)

// ray is a ray over a terrain: at the parameter t, its height is height + t rise.
type ray struct {
	ground       api.Terrain
	across, down course
	height, rise frac.Frac
}

// course is how a ray moves along one axis: at the parameter t, it is from + t speed steps of the terrain away from the
// first node.
type course struct {
	from, speed frac.Frac
	facets      int       // along the axis
	facet       int       // the one it is in; -1 or facets beyond the terrain
	exit        frac.Frac // the parameter at which it leaves the facet, if it moves
}

// piece is a piece of a ray: its parameters, and its facet.
type piece struct {
	start, end  frac.Frac
	column, row int
}

// rayFrom returns the ray from a point of the terrain in a direction.
func rayFrom(t api.Terrain, x, y frac.Frac, dir [3]int) (ray, api.Errno) {
	height, e := terrain.Height(t, x, y)
	if e != api.OK {
		return ray{}, e
	}
	if slices.ContainsFunc(dir[:], func(n int) bool { return n < -api.MaxCoef || n > api.MaxCoef }) {
		return ray{}, api.ErrRange
	}
	column, row, _ := terrain.Facet(t, x, y)
	across := courseFrom(difference(x, whole(t.X)), dir[0], t.Step, t.Cols-1)
	down := courseFrom(difference(y, whole(t.Y)), dir[1], t.Step, t.Rows-1)
	return ray{t, across.in(column), down.in(row), height, whole(dir[2])}, api.OK
}

// courseFrom returns the course from a coordinate at this distance from the first node. Its facet is still to be stated.
func courseFrom(distance frac.Frac, speed, step, facets int) course {
	return course{from: quotient(distance, whole(step)), speed: quotient(whole(speed), whole(step)), facets: facets}
}

// in returns the course in a facet.
func (c course) in(facet int) course {
	c.facet = facet
	if c.moves() {
		ahead := facet + max(0, frac.Sign(c.speed))
		c.exit = quotient(difference(whole(ahead), c.from), c.speed)
	}
	return c
}

// at returns the course in the facet in which it goes on from a parameter. This can be another one at the parameter 0, too,
// because a point at a border belongs to only one of the facets there.
func (c course) at(parameter frac.Frac) course {
	if c.moves() && frac.Compare(c.exit, parameter) == 0 {
		return c.in(c.facet + frac.Sign(c.speed))
	}
	return c
}

func (c course) moves() bool {
	return frac.Sign(c.speed) != 0
}

func (c course) isInside() bool {
	return c.facet >= 0 && c.facet < c.facets
}

// moves tells whether the ray is not vertical.
func (r ray) moves() bool {
	return r.across.moves() || r.down.moves()
}

// pieces yields the pieces of the ray, in order.
func (r ray) pieces() iter.Seq[piece] {
	return func(yield func(piece) bool) {
		start := frac.Frac{}
		across, down := r.across.at(start), r.down.at(start)
		for r.moves() && across.isInside() && down.isInside() {
			end := firstExit(across, down)
			if !yield(piece{start, end, across.facet, down.facet}) {
				return
			}
			start, across, down = end, across.at(end), down.at(end)
		}
	}
}

// firstExit returns the least parameter at which a course leaves its facet.
func firstExit(across, down course) frac.Frac {
	if !across.moves() || down.moves() && frac.Compare(down.exit, across.exit) < 0 {
		return down.exit
	}
	return across.exit
}

// gap returns the gap of the ray over a facet. With the form a, b, c, d, at x and y steps from its first node, the terrain
// has the height a + b x + y (c + d x) there.
func (r ray) gap(column, row int) parabola {
	f := form(r.ground, column, row)
	a, b, c, d := whole(f[0]), whole(f[1]), whole(f[2]), whole(f[3])
	x, dx := difference(r.across.from, whole(column)), r.across.speed
	y, dy := difference(r.down.from, whole(row)), r.down.speed
	slope, bend := sum(c, product(d, x)), product(d, dx) // of c + d x
	return parabola{
		difference(r.height, sum(a, product(b, x), product(y, slope))),
		difference(r.rise, sum(product(b, dx), product(dy, slope), product(y, bend))),
		difference(frac.Frac{}, product(dy, bend)),
	}
}

// form returns the form of a facet. It asks for that of a terrain of this facet alone, because package terrain examines all
// heights of a terrain each time.
func form(t api.Terrain, column, row int) [4]int {
	near, far := t.Heights[row*t.Cols+column:], t.Heights[(row+1)*t.Cols+column:]
	alone := api.Terrain{Step: t.Step, Cols: 2, Rows: 2, Heights: []int{near[0], near[1], far[0], far[1]}}
	f, _ := terrain.Form(alone, 0, 0)
	return f
}

// landing returns a function that tells whether a parameter is less than (-1), equal to or greater than (1) the least one at
// which the gap is 0, or nil if there is none. The gap at the parameter 0 is greater than 0.
func (r ray) landing(budget int) (func(t frac.Frac) int, api.Errno) {
	if !r.moves() {
		return r.fall(), api.OK
	}
	for p := range r.pieces() {
		gap := r.gap(p.column, p.row)
		marks := gap.marks(p.start, p.end)
		if exceed(marks, budget) {
			return nil, api.ErrBudget
		}
		if k := slices.IndexFunc(marks, mark.isReached); k >= 0 {
			return sideOfZero(p.start, marks[k].at, gap.value), api.OK
		}
	}
	return nil, api.OK
}

// fall is the landing of a vertical ray.
func (r ray) fall() func(t frac.Frac) int {
	if frac.Sign(r.rise) >= 0 {
		return nil
	}
	gap := r.gap(r.across.facet, r.down.facet)
	zero := quotient(gap.constant, difference(frac.Frac{}, r.rise))
	return func(t frac.Frac) int { return frac.Compare(t, zero) }
}
