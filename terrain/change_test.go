package terrain

import (
	"math"
	"math/rand"
	"slices"
	"testing"

	"skymosaic/api"
)

// equal tells whether two terrains have the same numbers and heights.
func equal(a, b api.Terrain) bool {
	return a.X == b.X && a.Y == b.Y && a.Step == b.Step && a.Cols == b.Cols && a.Rows == b.Rows && slices.Equal(a.Heights, b.Heights)
}

// P10.5.
func TestFlat(t *testing.T) {
	source := rand.New(rand.NewSource(30))
	for range 200 {
		want := randomTerrain(source)
		h := source.Intn(1<<15+1) - 1<<14
		for i := range want.Heights {
			want.Heights[i] = h
		}
		if got, e := Flat(want.X, want.Y, want.Step, want.Cols, want.Rows, h); !equal(got, want) || e != api.OK {
			t.Fatalf("Flat(%d, %d, %d, %d, %d, %d) = %v, %d, want %v, OK", want.X, want.Y, want.Step, want.Cols, want.Rows, h, got, e, want)
		}
	}
}

// P10.5: numbers at their limits and just beyond them, and sizes for which there is no memory.
func TestLimitsOfFlat(t *testing.T) {
	for _, v := range []struct {
		x, y, step, cols, rows, h int
		want                      api.Errno
	}{
		{0, 0, 1, 2, 2, 0, api.OK},
		{-1 << 20, -1 << 20, 65536, 33, 33, 1 << 14, api.OK},
		{-1 << 20, -1 << 20, 65536, 33, 33, -1 << 14, api.OK},
		{1<<20 - 127, 1<<20 - 127, 1, 128, 128, 5, api.OK},
		{0, 0, 1, 2, 2, 1<<14 + 1, api.ErrRange},
		{0, 0, 1, 2, 2, -1<<14 - 1, api.ErrRange},
		{0, 0, 1, 128, 128, math.MinInt, api.ErrRange},
		{-1<<20 - 1, 0, 1, 2, 2, 0, api.ErrRange},
		{1 << 20, 0, 1, 2, 2, 0, api.ErrRange},
		{math.MaxInt, 0, 1, 2, 2, 0, api.ErrRange},
		{0, -1<<20 - 1, 1, 2, 2, 0, api.ErrRange},
		{0, 1<<20 - 1, 1, 2, 3, 0, api.ErrRange},
		{0, math.MinInt, 1, 2, 2, 0, api.ErrRange},
		{0, 0, 0, 2, 2, 0, api.ErrArg},
		{0, 0, -1, 2, 2, 1 << 20, api.ErrArg},
		{1 << 40, 0, 65537, 2, 2, 0, api.ErrArg},
		{0, 0, 1, 1, 2, 0, api.ErrArg},
		{0, 0, 1, 2, 1, 0, api.ErrArg},
		{0, 0, 1, 0, 0, 0, api.ErrArg},
		{0, 0, 1, 129, 2, 1 << 20, api.ErrArg},
		{0, 1 << 40, 1, 2, 129, 0, api.ErrArg},
		{0, 0, 1, -1, 2, 0, api.ErrArg},
		{0, 0, 1, 2, -1, 0, api.ErrArg},
		{0, 0, 1, -2, -2, 0, api.ErrArg},
		{1 << 40, 1 << 40, 1, -2, -3, 1 << 40, api.ErrArg},
		{0, 0, 1, math.MinInt, math.MinInt, 0, api.ErrArg},
		{0, 0, 1, math.MaxInt, 2, 0, api.ErrArg},
		{0, 0, 1, 2, math.MaxInt, 0, api.ErrArg},
		{0, 0, 1, math.MaxInt, math.MaxInt, 0, api.ErrArg},
		{0, 0, 1, 1 << 32, 1 << 32, 0, api.ErrArg},
		{0, 0, 1, 1 << 20, 1 << 20, 0, api.ErrArg},
	} {
		got, e := Flat(v.x, v.y, v.step, v.cols, v.rows, v.h)
		if e != v.want || e != api.OK && !isZero(got) || e == api.OK && len(got.Heights) != v.cols*v.rows {
			t.Errorf("Flat(%d, %d, %d, %d, %d, %d) has the error %d and %d heights, want the error %d",
				v.x, v.y, v.step, v.cols, v.rows, v.h, e, len(got.Heights), v.want)
		}
	}
}

// P10.5 and R3: each node alone is raised; the terrain stays, and shares no memory with the result.
func TestRaise(t *testing.T) {
	source := rand.New(rand.NewSource(31))
	for range 40 {
		ground := randomTerrain(source)
		for i := range ground.Cols {
			for j := range ground.Rows {
				before, place := slices.Clone(ground.Heights), j*ground.Cols+i
				for _, h := range []int{source.Intn(1<<15+1) - 1<<14, 1 << 14, -1 << 14, ground.Heights[place]} {
					want := ground
					want.Heights = slices.Clone(before)
					want.Heights[place] = h
					got, e := Raise(ground, i, j, h)
					if !equal(got, want) || e != api.OK {
						t.Fatalf("Raise(%v, %d, %d, %d) = %v, %d, want %v, OK", ground, i, j, h, got, e, want)
					}
					for k := range got.Heights {
						got.Heights[k]++
					}
					if !slices.Equal(ground.Heights, before) {
						t.Fatalf("after Raise(%d, %d, %d), the heights are %v instead of %v", i, j, h, ground.Heights, before)
					}
				}
			}
		}
	}
}

// P10.5.
func TestErrorsOfRaise(t *testing.T) {
	ground := plain()
	for _, v := range [][3]int{
		{-1, 0, 0}, {4, 0, 0}, {0, -1, 0}, {0, 3, 0}, {4, 2, 0}, {3, 3, 0}, {4, -1, 0}, {-4, 1, 0}, {-1, 1, 0},
		{math.MinInt, 0, 0}, {math.MaxInt, 0, 0}, {0, math.MinInt, 0}, {0, math.MaxInt, 0}, {0, 1 << 62, 0}, {0, 1 << 61, 0},
		{0, 0, 1<<14 + 1}, {0, 0, -1<<14 - 1}, {3, 2, math.MaxInt}, {3, 2, math.MinInt}, {5, 5, 1 << 20},
	} {
		if got, e := Raise(ground, v[0], v[1], v[2]); e != api.ErrRange || !isZero(got) {
			t.Errorf("Raise(%d, %d, %d) = %v, %d, want zeros, ErrRange", v[0], v[1], v[2], got, e)
		}
	}
	if !equal(ground, plain()) {
		t.Errorf("the terrain is now %v", ground)
	}
}

// P10.10.
func TestRaisedHeights(t *testing.T) {
	source := rand.New(rand.NewSource(32))
	changed := 0
	for range 1500 {
		ground := randomTerrain(source)
		i, j := source.Intn(ground.Cols), source.Intn(ground.Rows)
		before := ground.Heights[j*ground.Cols+i]
		h := source.Intn(1<<15+1) - 1<<14
		raised, e1 := Raise(ground, i, j, h)
		flat, e2 := Flat(ground.X, ground.Y, ground.Step, ground.Cols, ground.Rows, 0)
		cone, e3 := Raise(flat, i, j, 1)
		if max(e1, e2, e3) != api.OK {
			t.Fatalf("errors %d, %d, %d", e1, e2, e3)
		}
		x, y := randomInside(source, ground)
		first, e1 := Height(ground, fracOf(x), fracOf(y))
		second, e2 := Height(raised, fracOf(x), fracOf(y))
		part, e3 := Height(cone, fracOf(x), fracOf(y))
		if max(e1, e2, e3) != api.OK {
			t.Fatalf("errors %d, %d, %d", e1, e2, e3)
		}
		if ratOf(part).Sign() != 0 {
			changed++
		}
		want := plus(ratOf(first), times(wholeRat(h-before), ratOf(part)))
		if ratOf(second).Cmp(want) != 0 {
			t.Fatalf("raised by %d, the height of %v at %v, %v is %v, want %v", h-before, ground, x, y, second, want)
		}
	}
	if changed < 200 {
		t.Errorf("only %d of 1500 points were raised", changed)
	}
}
