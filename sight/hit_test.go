package sight

import (
	"math"
	"math/big"
	"math/rand"
	"testing"

	"skymosaic/api"
	"skymosaic/frac"
)

// P11.4.
func TestHit(t *testing.T) {
	source := rand.New(rand.NewSource(30))
	hits, isAtBottom := 0, 0
	for range 3000 {
		w := randomWay(source)
		if checkHit(t, w, source.Intn(65), api.MaxDigits) {
			hits++
			if isAboveAtAllEnds(w) && w.gapAt(new(big.Rat)).Sign() > 0 {
				isAtBottom++
			}
		}
	}
	if hits < 700 || hits > 2300 || isAtBottom < 20 {
		t.Errorf("%d of 3000 rays hit the terrain, %d of them at no end", hits, isAtBottom)
	}
}

// P11.4: rays that come from above at some distance.
func TestHitFromAbove(t *testing.T) {
	source := rand.New(rand.NewSource(31))
	hits := 0
	for range 1500 {
		w := randomWay(source)
		w.from[2] = plus(w.onTheGround().from[2], big.NewRat(int64(1+source.Intn(3*w.ground.Step)), 2))
		w.dir[2] = -source.Intn(5)
		if checkHit(t, w, source.Intn(65), api.MaxDigits) {
			hits++
		}
	}
	if hits < 500 || hits > 1400 {
		t.Errorf("%d of 1500 rays hit the terrain", hits)
	}
}

// P11.4: all numbers of bits.
func TestBits(t *testing.T) {
	source := rand.New(rand.NewSource(32))
	ways := []way{
		{hill(), point("0", "0", "5"), [3]int{0, 0, -2}},
		{hill(), point("0", "0", "1/3"), [3]int{0, 0, -7}},
		{hill(), point("0", "0", "5"), [3]int{3, 3, 1}},
		{hill(), point("0", "10", "5"), [3]int{1, 0, 0}},
		{hill(), point("0", "10", "1000"), [3]int{0, 0, -1}},
		{hill(), point("0", "10", "1/1000000"), [3]int{1 << 30, 0, 0}},
		{hill(), point("0", "10", "0"), [3]int{1, 0, 0}},
	}
	for len(ways) < 20 {
		if w := randomWay(source); checkHit(t, w, 0, api.MaxDigits) {
			ways = append(ways, w)
		}
	}
	for _, w := range ways {
		for bits := range 65 {
			if !checkHit(t, w, bits, api.MaxDigits) {
				t.Errorf("no hit of %v with %d bits", w, bits)
			}
		}
	}
}

// P11.4: all budgets up to one that suffices.
func TestBudgetsOfHit(t *testing.T) {
	source := rand.New(rand.NewSource(33))
	hits := 0
	for range 200 {
		w := randomWay(source)
		for budget := 1; budget < 40; budget++ {
			if checkHit(t, w, 3, budget) {
				hits++
			}
		}
	}
	if hits < 1000 {
		t.Errorf("only %d of 8000 calls have a hit", hits)
	}
}

// P11.4: known results, where the budget is the first one that suffices.
func TestKnownHits(t *testing.T) {
	bowl := api.Terrain{Step: 1024, Cols: 2, Rows: 2, Heights: []int{0, 0, 0, -1023}}
	for _, v := range []struct {
		ground       api.Terrain
		x, y, z      string
		dir          [3]int
		bits, budget int
		lo, hi       string
		ok           bool
	}{
		{hill(), "0", "0", "5", [3]int{0, 0, -2}, 0, 1, "2", "3", true},
		{hill(), "0", "0", "5", [3]int{0, 0, -2}, 1, 1, "5/2", "5/2", true},
		{hill(), "0", "0", "5", [3]int{0, 0, 2}, 1, 1, "0", "0", false},
		{hill(), "0", "0", "5", [3]int{}, 1, 1, "0", "0", false},
		{hill(), "5", "5", "5/2", [3]int{}, 1, 1, "0", "0", true},
		{hill(), "5", "5", "5/2", [3]int{1, 1, 1 << 30}, 1, 1, "0", "0", true},
		{hill(), "5", "5", "5/2", [3]int{1, 1, -1 << 30}, 64, 1, "0", "0", true},
		{hill(), "5", "5", "9/4", [3]int{1, 1, 1 << 30}, 1, 1, "0", "0", false},
		{hill(), "5", "5", "9/4", [3]int{0, 0, 1}, 1, 1, "0", "0", false},
		{hill(), "5", "5", "9/4", [3]int{0, 0, -1}, 1, 1, "0", "0", false},
		{hill(), "0", "10", "5", [3]int{1, 0, 0}, 0, 4, "5", "5", true},       // -5 at 10
		{hill(), "0", "10", "10", [3]int{1, 0, 0}, 0, 4, "10", "10", true},    // 0 at 10, the end of the first piece
		{hill(), "0", "10", "11", [3]int{1, 0, 0}, 0, 5, "0", "0", false},     // 11 at 20
		{hill(), "0", "10", "11", [3]int{3, 0, 0}, 0, 5, "0", "0", false},     // 1 at 10/3, 11 at 20/3
		{hill(), "0", "10", "20", [3]int{1, 0, -1}, 0, 4, "10", "10", true},   // 0 at 10
		{hill(), "0", "10", "21", [3]int{1, 0, -1}, 0, 5, "20", "21", false},  // 1 at 20
		{hill(), "0", "10", "20", [3]int{10, 0, -9}, 2, 2, "1", "1", false},   // 1 at 1, 2 at 2
		{hill(), "0", "10", "20", [3]int{10, 0, -10}, 2, 1, "1", "1", true},   // 0 at 1
		{hill(), "20", "5", "7", [3]int{1, 0, -10}, 2, 1, "0", "0", false},    // no pieces
		{hill(), "20", "0", "7", [3]int{0, 0, -10}, 2, 1, "1/2", "3/4", true}, // 7/10
		{saddle(), "0", "0", "2", [3]int{1, 1, 0}, 3, 2, "1/2", "1/2", true},  // 0 at the bottom 1/2, 2 at 1
		{saddle(), "0", "0", "2", [3]int{3, 3, 0}, 3, 3, "1/8", "1/4", true},  // 0 at the bottom 1/6, 2 at 1/3
		{saddle(), "0", "0", "3", [3]int{1, 1, 0}, 3, 2, "0", "0", false},     // 1 at the bottom
		{saddle(), "0", "0", "15/8", [3]int{1, 1, 0}, 3, 4, "3/8", "3/8", true},
		{saddle(), "1", "0", "1", [3]int{-1, 1, 0}, 3, 1, "0", "0", false}, // below the terrain
		{bowl, "0", "0", "1/1024", [3]int{1024, 1, 0}, 3, 1, "0", "0", false},
	} {
		from := [3]frac.Frac{number(v.x), number(v.y), number(v.z)}
		for budget := max(1, v.budget-1); budget <= v.budget+1; budget++ {
			lo, hi, ok, e := Hit(v.ground, from, v.dir, v.bits, budget)
			want := api.OK
			if budget < v.budget {
				want = api.ErrBudget
			}
			isRight := lo.String() == v.lo && hi.String() == v.hi && ok == v.ok
			if want != api.OK || !v.ok {
				isRight = lo.String() == "0" && hi.String() == "0" && !ok
			}
			if !isRight || e != want {
				t.Errorf("Hit(%v, %v, %v, %d, %d) = %v, %v, %t, %d, want %s, %s, %t, %d", v.ground, from, v.dir, v.bits, budget, lo, hi, ok, e, v.lo, v.hi, v.ok, want)
			}
		}
	}
}

// P11.4: vertical rays of all lengths, at nodes, on borders and inside.
func TestVerticalRays(t *testing.T) {
	source := rand.New(rand.NewSource(34))
	for range 300 {
		w := randomWay(source)
		w.dir = [3]int{0, 0, source.Intn(1<<source.Intn(31)+1) - 1<<source.Intn(31)}
		height := new(big.Int).Rand(source, power2(uint(1+source.Intn(1000)), 0))
		w.from[2] = plus(w.from[2], ratio(height, big.NewInt(1+source.Int63n(1<<9))))
		checkHit(t, w, source.Intn(65), 1+source.Intn(api.MaxDigits))
	}
	long := ratio(power2(1024, -1), big.NewInt(1))
	for _, z := range []*big.Rat{long, over(whole64(1), long), ratio(power2(1024, -1), power2(1023, 1)), minus(new(big.Rat), long)} {
		for _, rise := range []int{-1, -3, -1 << 30, 1, 1 << 30, 0} {
			for _, bits := range []int{0, 1, 64} {
				w := way{hill(), [3]*big.Rat{little(), minus(whole64(1), little()), z}, [3]int{0, 0, rise}}
				checkHit(t, w, bits, 1)
			}
		}
	}
}

// P11.6: at the lower result, the gap is not less than 0; at lesser parameters, it is greater.
func TestGapsOfHits(t *testing.T) {
	source := rand.New(rand.NewSource(35))
	hits := 0
	for range 800 {
		w := randomWay(source)
		bits := source.Intn(20)
		lo, hi, ok, e := Hit(w.ground, w.start(), w.dir, bits, api.MaxDigits)
		if e != api.OK || !ok {
			continue
		}
		hits++
		first, last := ratOf(lo), ratOf(hi)
		if w.gapAt(first).Sign() < 0 {
			t.Fatalf("at the lower result %v of %v, the gap is %v", first, w, w.gapAt(first))
		}
		for k := range 40 {
			if at := times(first, big.NewRat(int64(k), 40)); first.Sign() > 0 && w.gapAt(at).Sign() <= 0 {
				t.Fatalf("at %v, ahead of the lower result %v of %v, the gap is %v", at, first, w, w.gapAt(at))
			}
		}
		if !w.isFreeBefore(first) || w.isFreeBefore(plus(last, big.NewRat(1, 1<<40))) {
			t.Fatalf("between %v and %v, the gap of %v is not 0 for the first time", first, last, w)
		}
	}
	if hits < 200 {
		t.Errorf("only %d of 800 rays hit the terrain", hits)
	}
}

// P11.4: numbers that are as long as possible.
func TestLongHits(t *testing.T) {
	source := rand.New(rand.NewSource(36))
	ground := steepTerrain(source, 5)
	hits := 0
	for range 60 {
		w := way{ground: ground, from: [3]*big.Rat{longNumber(source, 0), longNumber(source, 0), longNumber(source, 15)}}
		w.dir = [3]int{source.Intn(1<<31) - 1<<30, source.Intn(1<<31) - 1<<30, source.Intn(1<<20) - 1<<19}
		if source.Intn(2) == 0 {
			w.dir[source.Intn(2)] = 0
		}
		if checkHit(t, w, source.Intn(65), api.MaxDigits) {
			hits++
		}
		if _, digits := w.meets(); digits > 0 && digits <= api.MaxDigits {
			checkHit(t, w, 10, digits)
			checkHit(t, w, 10, max(1, digits-1))
		}
		w.from[2] = longNumber(source, uint(source.Intn(1024)))
		checkHit(t, w, source.Intn(65), api.MaxDigits)
	}
	if hits < 10 {
		t.Errorf("only %d of 60 rays hit the terrain", hits)
	}
}

// P11.4: the errors of Above come first, then those of directions, then those of bits and budgets, and last the budget
// that is exceeded.
func TestErrorsOfHit(t *testing.T) {
	down, wrong := [3]int{1, 1, -1}, wrongDirections()
	long := fracOf(ratio(big.NewInt(1), power2(1024, 0)))
	check := func(ground api.Terrain, from [3]frac.Frac, dir [3]int, bits, budget int, want api.Errno) {
		t.Helper()
		lo, hi, ok, e := Hit(ground, from, dir, bits, budget)
		if e != want || e != api.OK && (ok || lo.String() != "0" || hi.String() != "0") {
			t.Errorf("Hit(%v, %.50v, %v, %d, %d) = %.50v, %.50v, %t, %d, want the error %d", ground, from, dir, bits, budget, lo, hi, ok, e, want)
		}
	}
	grounds, points, errors := wrongPlaces()
	for i, ground := range grounds {
		for _, z := range []frac.Frac{number("0"), long} {
			from := [3]frac.Frac{points[i][0], points[i][1], z}
			check(ground, from, down, 5, 100, errors[i])
			check(ground, from, wrong[i%len(wrong)], 65, 0, errors[i])
		}
	}
	above, below, on := [3]frac.Frac{number("1"), number("1"), number("50")}, [3]frac.Frac{number("1"), number("1"), number("-50")}, [3]frac.Frac{}
	check(hill(), [3]frac.Frac{number("1"), number("1"), long}, down, 5, 100, api.ErrLimit)
	check(hill(), [3]frac.Frac{number("1"), number("1"), long}, wrong[0], -1, 0, api.ErrLimit)
	for _, from := range [][3]frac.Frac{above, below, on} {
		for _, dir := range wrong {
			check(hill(), from, dir, 5, 100, api.ErrRange)
			check(hill(), from, dir, 65, 0, api.ErrRange)
		}
		for _, dir := range [][3]int{down, {0, 0, -1}, {1 << 30, -1 << 30, 1 << 30}, {}} {
			for _, bits := range []int{-1, 65, math.MaxInt, math.MinInt} {
				check(hill(), from, dir, bits, 100, api.ErrArg)
				check(hill(), from, dir, bits, 0, api.ErrArg)
			}
			for _, budget := range []int{0, -1, 4097, math.MaxInt, math.MinInt} {
				check(hill(), from, dir, 5, budget, api.ErrArg)
			}
			for _, bits := range []int{0, 64} {
				check(hill(), from, dir, bits, 4096, api.OK)
			}
		}
	}
	check(hill(), above, down, 0, 1, api.ErrBudget)
	check(hill(), above, [3]int{0, 0, -1}, 0, 1, api.OK)
	check(hill(), below, down, 0, 1, api.OK)
	check(hill(), on, down, 0, 1, api.OK)
}
