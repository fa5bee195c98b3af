package sight

import (
	"math/big"
	"slices"
	"testing"

	"skymosaic/api"
	"skymosaic/frac"
)

func whole64(n int) *big.Rat {
	return new(big.Rat).SetInt64(int64(n))
}

func plus(a, b *big.Rat) *big.Rat {
	return new(big.Rat).Add(a, b)
}

func minus(a, b *big.Rat) *big.Rat {
	return new(big.Rat).Sub(a, b)
}

func times(a, b *big.Rat) *big.Rat {
	return new(big.Rat).Mul(a, b)
}

func over(a, b *big.Rat) *big.Rat {
	return new(big.Rat).Quo(a, b)
}

func middle(a, b *big.Rat) *big.Rat {
	return times(plus(a, b), big.NewRat(1, 2))
}

func number(s string) frac.Frac {
	x, e := frac.Parse(s)
	if e != api.OK {
		panic(s)
	}
	return x
}

func fracOf(r *big.Rat) frac.Frac {
	return number(r.RatString())
}

func ratOf(x frac.Frac) *big.Rat {
	r, ok := new(big.Rat).SetString(x.String())
	if !ok {
		panic(x.String())
	}
	return r
}

func rat(s string) *big.Rat {
	return ratOf(number(s))
}

func digitsOf(r *big.Rat) int {
	return max(r.Num().BitLen(), r.Denom().BitLen())
}

// way is a ray as the chapter describes it. All its parameters are found by a search through all nodes.
type way struct {
	ground api.Terrain
	from   [3]*big.Rat
	dir    [3]int
}

// axis is the nodes along an axis: the first coordinate, and how many there are.
func (w way) axis(k int) (first, nodes int) {
	if k == 0 {
		return w.ground.X, w.ground.Cols
	}
	return w.ground.Y, w.ground.Rows
}

// coordinate returns a coordinate of the ray, or its height.
func (w way) coordinate(k int, t *big.Rat) *big.Rat {
	return plus(w.from[k], times(t, whole64(w.dir[k])))
}

// facetAlong returns the number of the facet to which a coordinate of the domain belongs, along an axis.
func (w way) facetAlong(k int, x *big.Rat) int {
	first, nodes := w.axis(k)
	facet := 0
	for i := range nodes - 1 {
		if whole64(first+i*w.ground.Step).Cmp(x) <= 0 {
			facet = i
		}
	}
	return facet
}

// heightBelow returns the height of the terrain: each node of the facet counts as much as the area of the rectangle between
// the point and the node opposite.
func (w way) heightBelow(t *big.Rat) *big.Rat {
	x, y := w.coordinate(0, t), w.coordinate(1, t)
	i, j := w.facetAlong(0, x), w.facetAlong(1, y)
	total := new(big.Rat)
	for k := range 4 {
		across, down := k%2, k/2
		width := minus(x, whole64(w.ground.X+(i+1-across)*w.ground.Step))
		depth := minus(y, whole64(w.ground.Y+(j+1-down)*w.ground.Step))
		area := times(width.Abs(width), depth.Abs(depth))
		total = plus(total, times(area, whole64(w.ground.Heights[(j+down)*w.ground.Cols+i+across])))
	}
	return over(total, whole64(w.ground.Step*w.ground.Step))
}

// gapAt returns the gap at a parameter.
func (w way) gapAt(t *big.Rat) *big.Rat {
	return minus(w.coordinate(2, t), w.heightBelow(t))
}

// end returns the parameter at which the ray ends, or nil.
func (w way) end() *big.Rat {
	least := (*big.Rat)(nil)
	for k := range 2 {
		if w.dir[k] == 0 {
			continue
		}
		border, nodes := w.axis(k)
		if w.dir[k] > 0 {
			border += (nodes - 1) * w.ground.Step
		}
		t := over(minus(whole64(border), w.from[k]), whole64(w.dir[k]))
		if least == nil || t.Cmp(least) < 0 {
			least = t
		}
	}
	return least
}

// cuts returns 0, the parameters at which the ray is divided, and its end.
func (w way) cuts() []*big.Rat {
	end := w.end()
	if end == nil || end.Sign() == 0 {
		return nil
	}
	cuts := []*big.Rat{new(big.Rat), end}
	for k := range 2 {
		first, nodes := w.axis(k)
		for i := range nodes {
			if w.dir[k] == 0 {
				continue
			}
			t := over(minus(whole64(first+i*w.ground.Step), w.from[k]), whole64(w.dir[k]))
			if t.Sign() > 0 && t.Cmp(end) < 0 {
				cuts = append(cuts, t)
			}
		}
	}
	slices.SortFunc(cuts, (*big.Rat).Cmp)
	return slices.CompactFunc(cuts, func(a, b *big.Rat) bool { return a.Cmp(b) == 0 })
}

// facets returns the facets of the middles of all pieces.
func (w way) facets() (list [][2]int) {
	cuts := w.cuts()
	for i := 1; i < len(cuts); i++ {
		mid := middle(cuts[i-1], cuts[i])
		list = append(list, [2]int{w.facetAlong(0, w.coordinate(0, mid)), w.facetAlong(1, w.coordinate(1, mid))})
	}
	return list
}

// stretch is a piece: its end and the gap there, and its bottom and the gap there, if it has one.
type stretch struct {
	end, gap               *big.Rat
	bottom, gapAtTheBottom *big.Rat
}

// stretches returns the pieces of the ray.
func (w way) stretches() (list []stretch) {
	cuts := w.cuts()
	for i := 1; i < len(cuts); i++ {
		start, end := cuts[i-1], cuts[i]
		mid := middle(start, end)
		s := stretch{end: end, gap: w.gapAt(end)}
		if u := lowest(w.gapAt(start), w.gapAt(mid), s.gap); u != nil {
			s.bottom = plus(start, times(u, minus(end, start)))
			s.gapAtTheBottom = w.gapAt(s.bottom)
		}
		list = append(list, s)
	}
	return list
}

// lowest returns where between 0 and 1 a polynomial of degree 2 with these values at 0, 1/2 and 1 has its least value, or
// nil if it has it at 0 or 1.
func lowest(first, half, last *big.Rat) *big.Rat {
	twice := plus(half, half)
	bend := minus(plus(first, last), twice) // half of the coefficient of the square
	if bend.Sign() <= 0 {
		return nil
	}
	slope := minus(minus(plus(twice, twice), last), times(whole64(3), first))
	u := over(slope, times(whole64(-4), bend))
	if u.Sign() <= 0 || u.Cmp(whole64(1)) >= 0 {
		return nil
	}
	return u
}

// digits returns the number of digits of the longest number of a piece.
func (s stretch) digits() int {
	most := max(digitsOf(s.end), digitsOf(s.gap))
	if s.bottom != nil {
		most = max(most, digitsOf(s.bottom), digitsOf(s.gapAtTheBottom))
	}
	return most
}

// least returns the lesser one of the gaps at the end and at the bottom.
func (s stretch) least() *big.Rat {
	if s.bottom != nil && s.gapAtTheBottom.Cmp(s.gap) < 0 {
		return s.gapAtTheBottom
	}
	return s.gap
}

// view is what P11.3 says about a ray that begins on the terrain.
func (w way) view(budget int) int {
	for _, s := range w.stretches() {
		if s.digits() > budget {
			return Unknown
		}
		if s.least().Sign() < 0 {
			return Hidden
		}
	}
	return Clear
}

// isFreeBefore tells whether the gap is greater than 0 at all parameters of the ray that are less than t.
func (w way) isFreeBefore(t *big.Rat) bool {
	if t.Sign() <= 0 {
		return true
	}
	if w.gapAt(new(big.Rat)).Sign() <= 0 {
		return false
	}
	if w.end() == nil { // the gap has no bends
		return w.gapAt(t).Sign() >= 0
	}
	for _, s := range w.stretches() {
		if s.bottom != nil && s.bottom.Cmp(t) < 0 && s.gapAtTheBottom.Sign() <= 0 {
			return false
		}
		if t.Cmp(s.end) <= 0 {
			return w.gapAt(t).Sign() >= 0
		}
		if s.gap.Sign() <= 0 {
			return false
		}
	}
	return true
}

// meets tells whether the gap is 0 at a parameter, if it is not less than 0 at 0, and returns the number of digits of the
// longest number of a piece up to the first one with such a parameter.
func (w way) meets() (ok bool, digits int) {
	start := w.gapAt(new(big.Rat)).Sign()
	if start <= 0 {
		return start == 0, 0
	}
	if w.end() == nil {
		return w.dir[2] < 0, 0
	}
	for _, s := range w.stretches() {
		digits = max(digits, s.digits())
		if s.least().Sign() <= 0 {
			return true, digits
		}
	}
	return false, digits
}

// look returns the first arguments of Visible and Facets.
func (w way) look() (t api.Terrain, x, y frac.Frac, look [3]int) {
	return w.ground, fracOf(w.from[0]), fracOf(w.from[1]), w.dir
}

// start returns the point at which the ray begins.
func (w way) start() [3]frac.Frac {
	return [3]frac.Frac{fracOf(w.from[0]), fracOf(w.from[1]), fracOf(w.from[2])}
}

// onTheGround returns the ray that begins at the terrain.
func (w way) onTheGround() way {
	w.from[2] = w.heightBelow(new(big.Rat))
	return w
}

// checkVisible checks the result of Visible for the ray that begins at the terrain, and returns it.
func checkVisible(t *testing.T, w way, budget int) int {
	t.Helper()
	w = w.onTheGround()
	ground, x, y, look := w.look()
	got, e := Visible(ground, x, y, look, budget)
	if want := w.view(budget); got != want || e != api.OK {
		t.Fatalf("Visible(%v, %.99v, %.99v, %v, %d) = %d, %d, want %d, OK", ground, x, y, look, budget, got, e, want)
	}
	return got
}

// checkHit checks the result of Hit, and tells whether there is one.
func checkHit(t *testing.T, w way, bits, budget int) bool {
	t.Helper()
	lo, hi, ok, e := Hit(w.ground, w.start(), w.dir, bits, budget)
	wantOk, digits := w.meets()
	want := api.OK
	if digits > budget {
		wantOk, want = false, api.ErrBudget
	}
	if ok != wantOk || e != want {
		t.Fatalf("Hit(%v, %.99v, %v, %d, %d) = %.99v, %.99v, %t, %d, want %t, %d", w.ground, w.from, w.dir, bits, budget, lo, hi, ok, e, wantOk, want)
	}
	if !ok {
		if lo.String() != "0" || hi.String() != "0" {
			t.Fatalf("Hit(%v, %.99v, %v, %d, %d) = %.99v, %.99v, false", w.ground, w.from, w.dir, bits, budget, lo, hi)
		}
		return false
	}
	first, width := ratOf(lo), new(big.Rat).SetFrac(big.NewInt(1), new(big.Int).Lsh(big.NewInt(1), uint(bits)))
	next := plus(first, width)
	last := next
	if w.gapAt(first).Sign() == 0 {
		last = first
	}
	if !over(first, width).IsInt() || ratOf(hi).Cmp(last) != 0 || !w.isFreeBefore(first) || w.isFreeBefore(next) {
		t.Fatalf("Hit(%v, %.99v, %v, %d, %d) = %.99v, %.99v, true, OK", w.ground, w.from, w.dir, bits, budget, lo, hi)
	}
	return true
}

// checkFacets checks the result of Facets, and returns it.
func checkFacets(t *testing.T, w way) [][2]int {
	t.Helper()
	want := w.facets()
	ground, x, y, look := w.look()
	got, e := Facets(ground, x, y, look)
	if !slices.Equal(got, want) || e != api.OK {
		t.Fatalf("Facets(%v, %.99v, %.99v, %v) = %v, %d, want %v, OK", ground, x, y, look, got, e, want)
	}
	return got
}
