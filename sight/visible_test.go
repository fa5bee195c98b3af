package sight

import (
	"math"
	"math/big"
	"math/rand"
	"testing"

	"skymosaic/api"
)

// randomView is a ray that begins at the terrain and rises.
func randomView(source *rand.Rand) way {
	w := randomWay(source).onTheGround()
	w.dir[2] = 1 + source.Intn(1+source.Intn(1+source.Intn(60)))
	return w
}

// saddle is a terrain of one facet, whose diagonal from (0, 0) has the height 8 t - 8 t^2.
func saddle() api.Terrain {
	return api.Terrain{Step: 1, Cols: 2, Rows: 2, Heights: []int{0, 4, 4, 0}}
}

// P11.3.
func TestVisible(t *testing.T) {
	source := rand.New(rand.NewSource(20))
	found, onlyAtBottoms := map[int]int{}, 0
	for range 3000 {
		w := randomView(source)
		got := checkVisible(t, w, api.MaxDigits)
		found[got]++
		if got == Hidden && isAboveAtAllEnds(w) {
			onlyAtBottoms++
		}
	}
	if found[Clear] < 500 || found[Hidden] < 400 || onlyAtBottoms < 20 {
		t.Errorf("%d rays are clear, %d hidden, %d of these only by a bottom", found[Clear], found[Hidden], onlyAtBottoms)
	}
}

func isAboveAtAllEnds(w way) bool {
	for _, s := range w.stretches() {
		if s.gap.Sign() < 0 {
			return false
		}
	}
	return true
}

// P11.3 and P11.5: all budgets up to one that suffices. A greater one changes nothing but Unknown.
func TestBudgetsOfVisible(t *testing.T) {
	source := rand.New(rand.NewSource(21))
	changes := 0
	for range 150 {
		w, last := randomView(source), Unknown
		for budget := 1; budget < 50; budget++ {
			got := checkVisible(t, w, budget)
			if last != Unknown && got != last {
				t.Fatalf("from %v, the budget %d changes %d to %d", w, budget, last, got)
			}
			if got != last {
				changes++
			}
			last = got
		}
		if last != checkVisible(t, w, api.MaxDigits) && last != Unknown {
			t.Fatalf("from %v, the greatest budget changes %d", w, last)
		}
	}
	if changes < 50 {
		t.Errorf("only %d of 150 rays become known", changes)
	}
}

// P11.3: known results, where the last budget is the first one that suffices.
func TestKnownViews(t *testing.T) {
	for _, v := range []struct {
		ground       api.Terrain
		x, y         string
		look         [3]int
		budget, want int
	}{
		{hill(), "0", "10", [3]int{10, 0, 9}, 1, Hidden},                     // -1 at 1
		{hill(), "0", "10", [3]int{10, 0, 10}, 5, Clear},                     // 0 at 1, 20 at 2
		{hill(), "0", "10", [3]int{1, 0, 1}, 5, Clear},                       // 0 at 10, 20 at 20
		{hill(), "10", "0", [3]int{0, 5, 4}, 2, Hidden},                      // -2 at 2
		{saddle(), "0", "0", [3]int{1, 1, 1}, 6, Hidden},                     // -49/32 at the bottom 7/16
		{saddle(), "0", "0", [3]int{1, 1, 7}, 6, Hidden},                     // -1/32 at the bottom 1/16
		{saddle(), "0", "0", [3]int{1, 1, 8}, 4, Clear},                      // no bottom, as it is at 0; 8 at 1
		{saddle(), "0", "0", [3]int{1, 1, 9}, 4, Clear},                      // no bottom; 9 at 1
		{saddle(), "0", "0", [3]int{-1, 1, 1}, 1, Clear},                     // no pieces
		{saddle(), "1", "1", [3]int{0, 0, 1}, 1, Clear},                      // no pieces
		{saddle(), "1", "0", [3]int{-1, 1, 1}, 1, Clear},                     // bends downward
		{saddle(), "0", "0", [3]int{2, 2, 15}, 8, Hidden},                    // -1/128 at the bottom 1/64
		{ridge(1, 2, 0, 0, 5), "0", "0", [3]int{1, 0, 1}, 2, Hidden},         // -3 at 2
		{ridge(1, 2, 0, 7, 0, 900), "0", "1", [3]int{1, 0, 1}, 3, Hidden},    // -6 at 1
		{ridge(1, 2, 0, 0, 0, 0, 7), "0", "1", [3]int{1, 0, 1}, 3, Hidden},   // -3 at 4
		{ridge(1, 2, 5, 0, 5, 5), "0", "1/3", [3]int{1, 0, 1}, 3, Clear},     // 6 at 1
		{ridge(2, 2, 5, 0, 0, 0), "0", "1/3", [3]int{1, 0, 1}, 4, Clear},     // 11 at 6
		{ridge(1, 2, 0, 0, 0, 0, 0), "0", "1/3", [3]int{8, 0, 1}, 4, Clear},  // 1/8 at 1/8
		{ridge(1, 2, 0, 0, 0), "0", "1/3", [3]int{1, 0, 1 << 30}, 32, Clear}, // 2^31 at 2
	} {
		for budget := 1; budget <= v.budget+1; budget++ {
			want := v.want
			if budget < v.budget {
				want = Unknown
			}
			if got, e := Visible(v.ground, number(v.x), number(v.y), v.look, budget); got != want || e != api.OK {
				t.Errorf("Visible(%v, %s, %s, %v, %d) = %d, %d, want %d, OK", v.ground, v.x, v.y, v.look, budget, got, e, want)
			}
		}
	}
}

// P11.5: the gap at parameters of all pieces.
func TestGapsOfViews(t *testing.T) {
	source := rand.New(rand.NewSource(22))
	for range 600 {
		w := randomView(source)
		ground, x, y, look := w.look()
		got, e := Visible(ground, x, y, look, api.MaxDigits)
		if e != api.OK || got == Unknown {
			t.Fatalf("Visible(%v) = %d, %d", w, got, e)
		}
		isBelow := false
		cuts := w.cuts()
		for i := 1; i < len(cuts); i++ {
			for k := range 33 {
				part := times(big.NewRat(int64(k), 32), minus(cuts[i], cuts[i-1]))
				isBelow = isBelow || w.gapAt(plus(cuts[i-1], part)).Sign() < 0
			}
		}
		for _, s := range w.stretches() {
			isBelow = isBelow || s.least().Sign() < 0
		}
		if isBelow != (got == Hidden) {
			t.Fatalf("Visible(%v) = %d, but that the ray is below the terrain is %t", w, got, isBelow)
		}
	}
}

// P11.7.
func TestSteepViews(t *testing.T) {
	source := rand.New(rand.NewSource(23))
	clear := 0
	for range 500 {
		w, last := randomView(source), Hidden
		for range 8 {
			ground, x, y, look := w.look()
			got, e := Visible(ground, x, y, look, api.MaxDigits)
			if e != api.OK || last == Clear && got != Clear {
				t.Fatalf("Visible(%v) = %d, %d, but it was clear with a lesser rise", w, got, e)
			}
			if got == Clear && last == Hidden {
				clear++
			}
			last = got
			w.dir[2] += 1 + source.Intn(w.dir[2])
		}
	}
	if clear < 300 {
		t.Errorf("only %d of 500 views become clear", clear)
	}
}

// P11.7.
func TestViewsOverFlatTerrain(t *testing.T) {
	source := rand.New(rand.NewSource(24))
	for range 500 {
		w := randomView(source)
		for i := range w.ground.Heights {
			w.ground.Heights[i] = w.ground.Heights[0]
		}
		ground, x, y, look := w.look()
		if got, e := Visible(ground, x, y, look, api.MaxDigits); got != Clear || e != api.OK {
			t.Fatalf("Visible(%v) = %d, %d, want Clear, OK", w, got, e)
		}
	}
}

// steepTerrain has great heights and, with 2^-1023 at a node, points whose coordinates are as long as possible.
func steepTerrain(source *rand.Rand, nodes int) api.Terrain {
	t := api.Terrain{X: -65536, Y: -65535, Step: 65535, Cols: nodes, Rows: nodes}
	for range nodes * nodes {
		t.Heights = append(t.Heights, source.Intn(1<<15+1)-1<<14)
	}
	return t
}

// longNumber is a fraction between -2^size and 2^size of at most 1024 digits.
func longNumber(source *rand.Rand, size uint) *big.Rat {
	below := power2(1024-size, -1-2*source.Int63n(1<<60))
	above := new(big.Int).Rand(source, new(big.Int).Lsh(below, size))
	if source.Intn(2) == 0 {
		above.Neg(above)
	}
	return ratio(above, below)
}

// P11.3: coordinates that are as long as possible, whose numbers have thousands of digits.
func TestLongViews(t *testing.T) {
	source := rand.New(rand.NewSource(25))
	ground := steepTerrain(source, 5)
	known := 0
	for range 40 {
		w := way{ground: ground, from: [3]*big.Rat{longNumber(source, 0), longNumber(source, 0), new(big.Rat)}}
		w.dir = [3]int{source.Intn(1<<31) - 1<<30, source.Intn(1<<31) - 1<<30, 1 + source.Intn(1<<source.Intn(31))}
		if source.Intn(2) == 0 {
			w.dir[source.Intn(2)] = 0
		}
		if checkVisible(t, w, api.MaxDigits) != Unknown {
			known++
		}
		for _, s := range w.onTheGround().stretches() {
			if s.digits() <= api.MaxDigits {
				checkVisible(t, w, s.digits())
				checkVisible(t, w, s.digits()-1)
			}
		}
	}
	if known < 10 {
		t.Errorf("%d of 40 long views are known", known)
	}
}

// P11.3: the errors of Facets come first, then that of the rise, then that of the budget.
func TestErrorsOfVisible(t *testing.T) {
	up, wrong := [3]int{1, 1, 1}, wrongDirections()
	grounds, points, errors := wrongPlaces()
	for i, ground := range grounds {
		for _, look := range [][3]int{up, {1, 1, 0}, wrong[i%len(wrong)]} {
			for _, budget := range []int{1, 0} {
				if got, e := Visible(ground, points[i][0], points[i][1], look, budget); got != 0 || e != errors[i] {
					t.Errorf("Visible(%v, %.50v, %v, %d) = %d, %d, want 0, %d", ground, points[i], look, budget, got, e, errors[i])
				}
			}
		}
	}
	check := func(look [3]int, budget int, want api.Errno) {
		t.Helper()
		if got, e := Visible(hill(), number("0"), number("10"), look, budget); e != want || e != api.OK && got != 0 {
			t.Errorf("Visible in the direction %v with the budget %d = %d, %d, want the error %d", look, budget, got, e, want)
		}
	}
	for _, budget := range []int{1, 0} {
		for _, look := range wrong {
			check(look, budget, api.ErrRange)
		}
		for _, rise := range []int{0, -1, -1 << 30} {
			check([3]int{1, 0, rise}, budget, api.ErrFlat)
			check([3]int{0, 0, rise}, budget, api.ErrFlat)
		}
	}
	for budget, want := range map[int]api.Errno{0: api.ErrArg, -1: api.ErrArg, 4097: api.ErrArg, math.MaxInt: api.ErrArg, math.MinInt: api.ErrArg,
		1: api.OK, 2: api.OK, 4095: api.OK, 4096: api.OK} {
		check(up, budget, want)
		check([3]int{0, 0, 1}, budget, want)
		check([3]int{-1, 0, 1 << 30}, budget, want)
	}
}
