package terrain

import (
	"math/big"
	"math/rand"
	"testing"

	"skymosaic/api"
	"skymosaic/ival"
)

func interval(t *testing.T, lo, hi *big.Rat) ival.Ival {
	t.Helper()
	x, e := ival.Make(fracOf(lo), fracOf(hi))
	if e != api.OK {
		t.Fatalf("Make(%v, %v) returns the error %d", lo, hi, e)
	}
	return x
}

// rangeOf is what P10.4 says: it goes through all facets and asks of each one whether it has a point of the box.
func rangeOf(t api.Terrain, x, y ival.Ival) (least, greatest int, ok bool) {
	for i := range t.Cols - 1 {
		for j := range t.Rows - 1 {
			if !overlap(column(t, i), column(t, i+1), x) || !overlap(row(t, j), row(t, j+1), y) {
				continue
			}
			for k := range 4 {
				h := t.Heights[(j+k/2)*t.Cols+i+k%2]
				if !ok || h < least {
					least = h
				}
				if !ok || h > greatest {
					greatest = h
				}
				ok = true
			}
		}
	}
	return least, greatest, ok
}

// overlap tells whether a fraction from lo to hi is in x.
func overlap(lo, hi *big.Rat, x ival.Ival) bool {
	return lo.Cmp(ratOf(x.Hi())) <= 0 && ratOf(x.Lo()).Cmp(hi) <= 0
}

// checkRange checks the heights of a box, and tells whether there are some.
func checkRange(t *testing.T, ground api.Terrain, x, y ival.Ival) bool {
	t.Helper()
	least, greatest, e := Range(ground, x, y)
	wantLeast, wantGreatest, ok := rangeOf(ground, x, y)
	want := api.OK
	if !ok {
		want = api.ErrOutside
	}
	if least != wantLeast || greatest != wantGreatest || e != want {
		t.Fatalf("Range(%v, %.99v, %.99v) = %d, %d, %d, want %d, %d, %d", ground, x, y, least, greatest, e, wantLeast, wantGreatest, want)
	}
	return ok
}

// randomAround is a coordinate near some nodes, or far away from all.
func randomAround(source *rand.Rand, first, step, nodes int) *big.Rat {
	part := big.NewRat(int64(source.Intn(1<<20)), 1<<20)
	switch source.Intn(5) {
	case 0:
		part = new(big.Rat)
	case 1:
		part = big.NewRat(int64(source.Intn(3)-1), 1<<32)
	}
	steps := plus(part, wholeRat(source.Intn(nodes+4)-2))
	return plus(wholeRat(first), times(steps, wholeRat(step)))
}

// P10.4.
func TestRange(t *testing.T) {
	source := rand.New(rand.NewSource(20))
	inside := 0
	for range 4000 {
		ground := randomTerrain(source)
		side := func(first, nodes int) ival.Ival {
			lo := randomAround(source, first, ground.Step, nodes)
			hi := randomAround(source, first, ground.Step, nodes)
			if source.Intn(4) == 0 {
				hi = plus(lo, big.NewRat(int64(source.Intn(2)), 1<<32))
			}
			return interval(t, lo, hi)
		}
		if checkRange(t, ground, side(ground.X, ground.Cols), side(ground.Y, ground.Rows)) {
			inside++
		}
	}
	if inside < 1000 || inside > 3000 {
		t.Errorf("%d of 4000 boxes meet the terrain", inside)
	}
}

// P10.4: boxes with an end at a node or 2^-32 beside it, in each direction alone.
func TestBordersOfBoxes(t *testing.T) {
	ground, little := plain(), big.NewRat(1, 1<<32)
	ends := func(first, nodes int) (list []*big.Rat) {
		for n := range nodes {
			for k := range 3 {
				list = append(list, plus(wholeRat(first+n*ground.Step), times(little, wholeRat(k-1))))
			}
		}
		return list
	}
	midX, midY := interval(t, wholeRat(0), wholeRat(1)), interval(t, wholeRat(12), wholeRat(13))
	met, boxes := 0, 0
	count := func(ok bool) {
		boxes++
		if ok {
			met++
		}
	}
	for _, lo := range ends(ground.X, ground.Cols) {
		for _, hi := range ends(ground.X, ground.Cols) {
			count(checkRange(t, ground, interval(t, lo, hi), midY))
		}
	}
	for _, lo := range ends(ground.Y, ground.Rows) {
		for _, hi := range ends(ground.Y, ground.Rows) {
			count(checkRange(t, ground, midX, interval(t, lo, hi)))
		}
	}
	if met != boxes-4 { // those of the only points 2^-32 before the first node and behind the last one
		t.Errorf("%d of %d boxes meet the terrain", met, boxes)
	}
}

// P10.4: boxes of one node have those around it, in up to four facets.
func TestRangeOfNodes(t *testing.T) {
	ground := plain()
	for _, v := range []struct{ i, j, least, greatest int }{{0, 0, -92, 65}, {1, 0, -92, 65}, {1, 1, -92, 79}, {3, 2, -89, 46}, {3, 0, -89, 35}, {2, 1, -89, 65}} {
		x, y := interval(t, column(ground, v.i), column(ground, v.i)), interval(t, row(ground, v.j), row(ground, v.j))
		if least, greatest, e := Range(ground, x, y); least != v.least || greatest != v.greatest || e != api.OK {
			t.Errorf("Range at the node %d, %d = %d, %d, %d, want %d, %d, OK", v.i, v.j, least, greatest, e, v.least, v.greatest)
		}
	}
}

// P10.4: boxes that are as great as possible, and those that are as far away as possible.
func TestGreatBoxes(t *testing.T) {
	source := rand.New(rand.NewSource(21))
	far := integer(power2(8159, 0))
	before, behind := minus(new(big.Rat), far), far
	inner := interval(t, wholeRat(0), wholeRat(6))
	for range 20 {
		ground := randomTerrain(source)
		if source.Intn(2) == 0 {
			ground = plain()
		}
		for _, side := range []ival.Ival{interval(t, before, behind), interval(t, before, before), interval(t, behind, behind),
			interval(t, before, wholeRat(0)), interval(t, wholeRat(8), behind)} {
			checkRange(t, ground, side, side)
			checkRange(t, ground, side, inner)
			checkRange(t, ground, inner, side)
		}
	}
	if !checkRange(t, plain(), interval(t, before, behind), interval(t, before, behind)) {
		t.Error("the greatest box does not meet the terrain")
	}
}

// P10.4: terrains with the greatest and the least heights in all places.
func TestExtremes(t *testing.T) {
	whole := interval(t, wholeRat(-100), wholeRat(100))
	for _, h := range []int{1 << 14, -1 << 14, 0, 7, -7} {
		ground, e := Flat(0, 0, 1, 3, 4, h)
		if e != api.OK {
			t.Fatal(e)
		}
		if least, greatest, e := Range(ground, whole, whole); least != h || greatest != h || e != api.OK {
			t.Errorf("Range with the height %d = %d, %d, %d, want %d, %d, OK", h, least, greatest, e, h, h)
		}
		for place := range ground.Heights {
			for _, n := range []int{1 << 14, -1 << 14} {
				ground.Heights[place] = n
				checkRange(t, ground, whole, whole)
				ground.Heights[place] = h
			}
		}
	}
}

// P10.4: the greatest terrain.
func TestRangeOfManyFacets(t *testing.T) {
	source := rand.New(rand.NewSource(22))
	ground := sized(128, 128)
	for i := range ground.Heights {
		ground.Heights[i] = source.Intn(2001) - 1000
	}
	for range 20 {
		x := interval(t, big.NewRat(int64(source.Intn(130)), 1), big.NewRat(int64(source.Intn(260)), 2))
		y := interval(t, big.NewRat(int64(source.Intn(130)), 1), big.NewRat(int64(source.Intn(260)), 2))
		checkRange(t, ground, x, y)
	}
	checkRange(t, ground, interval(t, wholeRat(0), wholeRat(127)), interval(t, wholeRat(0), wholeRat(127)))
}

// randomPart returns an interval within x, and a fraction in it.
func randomPart(t *testing.T, source *rand.Rand, x ival.Ival) (ival.Ival, *big.Rat) {
	t.Helper()
	lo, width := ratOf(x.Lo()), ratOf(ival.Width(x))
	ends := [3]int{source.Intn(17), source.Intn(17), source.Intn(17)}
	from, to := min(ends[0], ends[1], ends[2]), max(ends[0], ends[1], ends[2])
	at := func(n int) *big.Rat { return plus(lo, times(width, big.NewRat(int64(n), 16))) }
	middle := ends[0] + ends[1] + ends[2] - from - to
	return interval(t, at(from), at(to)), at(middle)
}

// P10.8: points in boxes and boxes in boxes.
func TestBounds(t *testing.T) {
	source := rand.New(rand.NewSource(23))
	points, boxes := 0, 0
	for range 3000 {
		ground := randomTerrain(source)
		x := interval(t, randomAround(source, ground.X, ground.Step, ground.Cols), randomAround(source, ground.X, ground.Step, ground.Cols))
		y := interval(t, randomAround(source, ground.Y, ground.Step, ground.Rows), randomAround(source, ground.Y, ground.Step, ground.Rows))
		least, greatest, e := Range(ground, x, y)
		smallX, atX := randomPart(t, source, x)
		smallY, atY := randomPart(t, source, y)
		if lower, upper, f := Range(ground, smallX, smallY); f == api.OK {
			boxes++
			if e != api.OK || lower < least || upper > greatest {
				t.Fatalf("Range(%v, %v, %v) = %d, %d, %d, but in %v, %v it is %d, %d", ground, x, y, least, greatest, e, smallX, smallY, lower, upper)
			}
		}
		if h, f := Height(ground, fracOf(atX), fracOf(atY)); f == api.OK {
			points++
			if e != api.OK || ratOf(h).Cmp(wholeRat(least)) < 0 || ratOf(h).Cmp(wholeRat(greatest)) > 0 {
				t.Fatalf("Range(%v, %v, %v) = %d, %d, %d, but at %v, %v the height is %v", ground, x, y, least, greatest, e, atX, atY, h)
			}
		}
	}
	if min(points, boxes) < 500 {
		t.Errorf("only %d points and %d boxes were compared", points, boxes)
	}
}

// The facets that a box meets can be left at any of them.
func TestSomeFacets(t *testing.T) {
	x, y := interval(t, wholeRat(0), wholeRat(30)), interval(t, wholeRat(0), wholeRat(30))
	want := [][2]int{{1, 0}, {2, 0}, {1, 1}, {2, 1}}
	for most := 1; most <= len(want); most++ {
		seen := [][2]int{}
		for i, j := range facets(plain(), x, y) {
			seen = append(seen, [2]int{i, j})
			if len(seen) == most {
				break
			}
		}
		for k := range most {
			if len(seen) != most || seen[k] != want[k] {
				t.Fatalf("the first %d facets are %v, want %v", most, seen, want[:most])
			}
		}
	}
}
