package sight

import (
	"math"
	"math/big"
	"math/rand"
	"slices"
	"testing"

	"skymosaic/api"
	"skymosaic/frac"
)

// hill is the terrain of the chapter's examples.
func hill() api.Terrain {
	return api.Terrain{Step: 10, Cols: 3, Rows: 3, Heights: []int{0, 0, 0, 0, 10, 0, 0, 0, 0}}
}

// plain is a terrain whose numbers differ.
func plain() api.Terrain {
	return api.Terrain{X: -7, Y: 5, Step: 6, Cols: 4, Rows: 3, Heights: []int{3, -1, 4, 15, -9, 6, 5, -8, 9, 2, -6, 4}}
}

// flat is a terrain of one height at (0, 0), with the step 1.
func flat(cols, rows, h int) api.Terrain {
	return api.Terrain{Step: 1, Cols: cols, Rows: rows, Heights: slices.Repeat([]int{h}, cols*rows)}
}

// ridge is a terrain along x with these heights, the same in all rows.
func ridge(step, rows int, heights ...int) api.Terrain {
	return api.Terrain{Step: step, Cols: len(heights), Rows: rows, Heights: slices.Repeat(heights, rows)}
}

func point(x, y, z string) [3]*big.Rat {
	return [3]*big.Rat{rat(x), rat(y), rat(z)}
}

// power2 is 2^n + more.
func power2(n uint, more int64) *big.Int {
	b := new(big.Int).Lsh(big.NewInt(1), n)
	return b.Add(b, big.NewInt(more))
}

func ratio(p, q *big.Int) *big.Rat {
	return new(big.Rat).SetFrac(p, q)
}

// little is 2^-1023, which has 1024 digits.
func little() *big.Rat {
	return ratio(big.NewInt(1), power2(1023, 0))
}

// randomTerrain is valid and has some nodes.
func randomTerrain(source *rand.Rand) api.Terrain {
	t := api.Terrain{X: source.Intn(99) - 50, Y: source.Intn(99) - 50, Step: 1 + source.Intn(1+source.Intn(30))}
	t.Cols, t.Rows = 2+source.Intn(5), 2+source.Intn(5)
	most := 1 + source.Intn(3*t.Step)
	for range t.Cols * t.Rows {
		t.Heights = append(t.Heights, source.Intn(2*most+1)-most)
	}
	return t
}

// randomCoordinate is one of the domain, often on a border of facets or on that of the domain.
func randomCoordinate(source *rand.Rand, first, step, nodes int) *big.Rat {
	steps := big.NewRat(int64(source.Intn(60*(nodes-1)+1)), 60)
	switch source.Intn(8) {
	case 0, 1:
		steps = whole64(source.Intn(nodes))
	case 2:
		steps = whole64(source.Intn(2) * (nodes - 1))
	}
	return plus(whole64(first), times(steps, whole64(step)))
}

// randomWay begins near the terrain.
func randomWay(source *rand.Rand) way {
	ground := randomTerrain(source)
	w := way{ground: ground}
	w.from[0] = randomCoordinate(source, ground.X, ground.Step, ground.Cols)
	w.from[1] = randomCoordinate(source, ground.Y, ground.Step, ground.Rows)
	w = w.onTheGround()
	if source.Intn(4) > 0 {
		w.from[2] = plus(w.from[2], big.NewRat(int64(source.Intn(30*ground.Step)-ground.Step), int64(1+source.Intn(12))))
	}
	most := 1 + source.Intn(1+source.Intn(40))
	for k := range w.dir {
		w.dir[k] = source.Intn(2*most+1) - most
		if source.Intn(4) == 0 {
			w.dir[k] = source.Intn(3) - 1
		}
	}
	return w
}

func TestExamplesOfTheChapter(t *testing.T) {
	for _, v := range []struct{ rise, want int }{{9, Hidden}, {10, Clear}} {
		if got, e := Visible(hill(), number("0"), number("10"), [3]int{10, 0, v.rise}, api.MaxDigits); got != v.want || e != api.OK {
			t.Errorf("Visible with the rise %d = %d, %d, want %d, OK", v.rise, got, e, v.want)
		}
	}
	from := [3]frac.Frac{number("0"), number("0"), number("5")}
	lo, hi, ok, e := Hit(hill(), from, [3]int{0, 0, -2}, 1, 1)
	if lo.String() != "5/2" || hi.String() != "5/2" || !ok || e != api.OK {
		t.Errorf("Hit = %v, %v, %t, %d, want 5/2, 5/2, true, OK", lo, hi, ok, e)
	}
	if Clear != 0 || Hidden != 1 || Unknown != 2 {
		t.Errorf("Clear, Hidden and Unknown are %d, %d and %d", Clear, Hidden, Unknown)
	}
}

// P11.1.
func TestAbove(t *testing.T) {
	source := rand.New(rand.NewSource(1))
	found := map[int]int{}
	for range 2000 {
		w := randomWay(source)
		want := w.gapAt(new(big.Rat)).Sign()
		found[want]++
		if got, e := Above(w.ground, fracOf(w.from[0]), fracOf(w.from[1]), fracOf(w.from[2])); got != want || e != api.OK {
			t.Fatalf("Above(%v, %v) = %d, %d, want %d, OK", w.ground, w.from, got, e, want)
		}
	}
	if min(found[-1], found[0], found[1]) < 50 {
		t.Errorf("too few points of a kind: %v", found)
	}
}

// P11.1: points a little above and below the terrain, with coordinates and heights that are as long as possible.
func TestAboveByALittle(t *testing.T) {
	twice := times(little(), whole64(2))
	for _, v := range [][2]*big.Rat{
		{little(), little()},
		{minus(whole64(1), little()), minus(whole64(1), little())},
		{plus(whole64(1), twice), plus(whole64(1), plus(twice, twice))},
	} {
		for want := -1; want <= 1; want++ {
			h := plus(v[1], times(twice, whole64(want)))
			if got, e := Above(ridge(1, 2, 0, 1, 3), fracOf(v[0]), number("1/3"), fracOf(h)); got != want || e != api.OK {
				t.Errorf("Above at %.50v and the distance %d = %d, %d", v[0], want, got, e)
			}
		}
	}
}

// P11.1: the greatest heights, and those that are too long, which is found behind the errors of terrains and points.
func TestErrorsOfAbove(t *testing.T) {
	long, longer := ratio(power2(1024, -1), big.NewInt(1)), ratio(power2(1024, 0), big.NewInt(1))
	invalid, high := hill(), hill()
	invalid.Step = 0
	high.Heights[4] = 1<<14 + 1
	for _, v := range []struct {
		t       api.Terrain
		x, y, h *big.Rat
		sign    int
		want    api.Errno
	}{
		{hill(), whole64(0), whole64(0), long, 1, api.OK},
		{hill(), whole64(0), whole64(0), minus(new(big.Rat), long), -1, api.OK},
		{hill(), whole64(0), whole64(0), over(whole64(1), long), 1, api.OK},
		{hill(), whole64(0), whole64(0), minus(new(big.Rat), over(whole64(1), long)), -1, api.OK},
		{hill(), whole64(0), whole64(0), longer, 0, api.ErrLimit},
		{hill(), whole64(0), whole64(0), minus(new(big.Rat), longer), 0, api.ErrLimit},
		{hill(), whole64(0), whole64(0), over(whole64(1), longer), 0, api.ErrLimit},
		{hill(), whole64(0), whole64(0), over(whole64(-3), longer), 0, api.ErrLimit},
		{hill(), whole64(0), whole64(0), ratio(power2(16000, 0), big.NewInt(1)), 0, api.ErrLimit},
		{hill(), whole64(21), whole64(0), whole64(1), 0, api.ErrOutside},
		{hill(), whole64(21), whole64(0), longer, 0, api.ErrOutside},
		{hill(), whole64(0), whole64(-1), longer, 0, api.ErrOutside},
		{hill(), longer, whole64(-1), whole64(1), 0, api.ErrLimit},
		{hill(), whole64(-1), over(whole64(1), longer), whole64(1), 0, api.ErrLimit},
		{invalid, whole64(0), whole64(0), whole64(1), 0, api.ErrArg},
		{invalid, whole64(-1), longer, longer, 0, api.ErrArg},
		{high, longer, whole64(0), longer, 0, api.ErrRange},
		{api.Terrain{}, whole64(0), whole64(0), whole64(0), 0, api.ErrArg},
	} {
		if got, e := Above(v.t, fracOf(v.x), fracOf(v.y), fracOf(v.h)); got != v.sign || e != v.want {
			t.Errorf("Above(%v, %.50v, %.50v, %.50v) = %d, %d, want %d, %d", v.t, v.x, v.y, v.h, got, e, v.sign, v.want)
		}
	}
}

// wrongPlaces are terrains and points for which package terrain has no height, and its errors.
func wrongPlaces() (terrains []api.Terrain, points [][2]frac.Frac, errors []api.Errno) {
	add := func(t api.Terrain, x, y frac.Frac, e api.Errno) {
		terrains, points, errors = append(terrains, t), append(points, [2]frac.Frac{x, y}), append(errors, e)
	}
	long := fracOf(ratio(power2(1024, 0), big.NewInt(1)))
	spoilt, short, far := plain(), plain(), plain()
	spoilt.Step = 65537
	short.Heights = short.Heights[:11]
	far.X = math.MinInt
	for _, at := range [][2]frac.Frac{{number("0"), number("6")}, {long, number("6")}, {number("99"), number("6")}} {
		add(api.Terrain{}, at[0], at[1], api.ErrArg)
		add(spoilt, at[0], at[1], api.ErrArg)
		add(short, at[0], at[1], api.ErrArg)
		add(far, at[0], at[1], api.ErrRange)
	}
	add(plain(), long, number("6"), api.ErrLimit)
	add(plain(), number("0"), long, api.ErrLimit)
	add(plain(), number("99"), long, api.ErrLimit)
	for _, at := range [][2]string{{"-8", "6"}, {"12", "6"}, {"0", "4"}, {"0", "18"}, {"-8", "18"}, {"-57/8", "6"}, {"0", "137/8"}} {
		add(plain(), number(at[0]), number(at[1]), api.ErrOutside)
	}
	return terrains, points, errors
}

// wrongDirections are some with a number that is out of range.
func wrongDirections() (list [][3]int) {
	for _, n := range []int{1<<30 + 1, -1<<30 - 1, math.MaxInt, math.MinInt} {
		list = append(list, [3]int{n, 1, 1}, [3]int{1, n, 1}, [3]int{1, 1, n}, [3]int{0, 0, n}, [3]int{n, n, n})
	}
	return list
}

// R3: no function changes the heights it is given.
func TestArgumentsStay(t *testing.T) {
	ground, zero := plain(), number("6")
	Above(ground, zero, zero, zero)
	Facets(ground, zero, zero, [3]int{-1, 1, 1})
	Visible(ground, zero, zero, [3]int{-1, 1, 1}, 100)
	Hit(ground, [3]frac.Frac{zero, zero, number("99")}, [3]int{-1, 1, -5}, 5, 100)
	if !slices.Equal(ground.Heights, plain().Heights) {
		t.Errorf("the heights are now %v", ground.Heights)
	}
}
