package sight

import (
	"math/big"
	"math/rand"
	"slices"
	"testing"

	"skymosaic/api"
)

// P11.2 and P11.8.
func TestFacets(t *testing.T) {
	source := rand.New(rand.NewSource(10))
	none, several := 0, 0
	for range 4000 {
		facets := checkFacets(t, randomWay(source))
		checkNeighbors(t, facets)
		if len(facets) == 0 {
			none++
		} else if len(facets) > 2 {
			several++
		}
	}
	if none < 300 || several < 700 {
		t.Errorf("%d of 4000 rays have no pieces, %d more than two", none, several)
	}
}

// checkNeighbors checks that neighbors have a node in common, and that no facet occurs twice.
func checkNeighbors(t *testing.T, facets [][2]int) {
	t.Helper()
	known := map[[2]int]bool{}
	for i, f := range facets {
		if known[f] {
			t.Fatalf("%v occurs twice in %v", f, facets)
		}
		known[f] = true
		if i > 0 && (max(f[0]-facets[i-1][0], facets[i-1][0]-f[0]) > 1 || max(f[1]-facets[i-1][1], facets[i-1][1]-f[1]) > 1) {
			t.Fatalf("%v and %v have no node in common", facets[i-1], f)
		}
	}
}

// P11.2: from all nodes, middles of borders and middles of facets in all directions, along lines of nodes and through
// nodes, some out of the domain.
func TestFacetsFromNodes(t *testing.T) {
	ground := plain()
	for i := range 2*ground.Cols - 1 {
		for j := range 2*ground.Rows - 1 {
			x, y := plus(whole64(ground.X), big.NewRat(int64(i*ground.Step), 2)), plus(whole64(ground.Y), big.NewRat(int64(j*ground.Step), 2))
			for k := range 7 * 7 {
				checkFacets(t, way{ground: ground, from: [3]*big.Rat{x, y, x}, dir: [3]int{k%7 - 3, k/7 - 3, k - 20}})
			}
		}
	}
}

// P11.2: known facets.
func TestKnownFacets(t *testing.T) {
	for _, v := range []struct {
		x, y string
		look [3]int
		want [][2]int
	}{
		{"0", "0", [3]int{1, 1, 1}, [][2]int{{0, 0}, {1, 1}}},
		{"0", "0", [3]int{3, 2, 1}, [][2]int{{0, 0}, {1, 0}, {1, 1}}},
		{"20", "20", [3]int{-1, -2, -5}, [][2]int{{1, 1}, {1, 0}}},
		{"0", "10", [3]int{1, 0, 0}, [][2]int{{0, 1}, {1, 1}}},
		{"20", "0", [3]int{0, 7, 0}, [][2]int{{1, 0}, {1, 1}}},
		{"10", "10", [3]int{-1, 0, 0}, [][2]int{{0, 1}}},
		{"10", "10", [3]int{0, -1, 0}, [][2]int{{1, 0}}},
		{"10", "10", [3]int{-1, -1, 0}, [][2]int{{0, 0}}},
		{"10", "10", [3]int{0, 0, 1}, nil},
		{"10", "10", [3]int{}, nil},
		{"0", "5", [3]int{-1, 0, 1}, nil},
		{"0", "5", [3]int{-1, 1, 1}, nil},
		{"5", "20", [3]int{1, 1, 1}, nil},
		{"20", "20", [3]int{0, 1, 1}, nil},
		{"20", "20", [3]int{1, -1, 1}, nil},
		{"5", "5", [3]int{1 << 30, -1 << 30, 1 << 30}, [][2]int{{0, 0}}},
	} {
		if got, e := Facets(hill(), number(v.x), number(v.y), v.look); !slices.Equal(got, v.want) || e != api.OK {
			t.Errorf("Facets from %s, %s in the direction %v = %v, %d, want %v, OK", v.x, v.y, v.look, got, e, v.want)
		}
	}
}

// P11.2 and P11.8: rays over the greatest terrain, that with as many pieces as possible among them.
func TestManyFacets(t *testing.T) {
	ground, most := flat(128, 128, 3), 0
	for _, dir := range [][3]int{{1, 1, 1}, {127, 126, 1}, {126, 127, 0}, {128, 127, 0}, {1, 0, 0}, {0, 1, 0}, {1 << 30, 1, 0}, {3, 100, 0}, {1 << 30, 1<<30 - 1, 0}} {
		for _, start := range []string{"0", "1/2", "1/999"} {
			for k := range 4 {
				w := way{ground: ground, from: point(start, "0", "0"), dir: dir}
				if k%2 == 1 {
					w.from[0], w.dir[0] = minus(whole64(127), w.from[0]), -dir[0]
				}
				if k/2 == 1 {
					w.from[1], w.dir[1] = whole64(127), -dir[1]
				}
				facets := checkFacets(t, w)
				checkNeighbors(t, facets)
				most = max(most, len(facets))
			}
		}
	}
	if most != 253 {
		t.Errorf("the longest list has %d facets, want 253", most)
	}
}

// P11.2: rays that begin beside a node, at coordinates that are as long as possible, with all sizes of directions.
func TestFacetsBesideNodes(t *testing.T) {
	ground := hill()
	ground.X, ground.Y = -10, -10
	for _, n := range []int{1, 3, 1 << 30} {
		for k := range 9 {
			x, y := times(little(), whole64(k%3-1)), times(little(), whole64(k/3-1))
			for _, dir := range [][3]int{{n, n, 0}, {n, -n, 0}, {-n, n, 0}, {-n, -n, 0}, {n, 0, 0}, {0, -n, 0}, {n, n - 1, 0}, {1 - n, -n, 0}} {
				checkFacets(t, way{ground: ground, from: [3]*big.Rat{x, y, x}, dir: dir})
			}
		}
	}
}

// P11.2: the errors of terrains and points come first, then that of directions.
func TestErrorsOfFacets(t *testing.T) {
	check := func(ground api.Terrain, x, y string, look [3]int, want api.Errno) {
		t.Helper()
		if got, e := Facets(ground, number(x), number(y), look); len(got) != 0 || e != want {
			t.Errorf("Facets(%v, %.50s, %.50s, %v) = %v, %d, want nothing, %d", ground, x, y, look, got, e, want)
		}
	}
	wrong := wrongDirections()
	grounds, points, errors := wrongPlaces()
	for i, ground := range grounds {
		x, y := points[i][0].String(), points[i][1].String()
		check(ground, x, y, [3]int{1, 1, 1}, errors[i])
		check(ground, x, y, wrong[i%len(wrong)], errors[i])
	}
	for _, look := range wrong {
		check(plain(), "0", "6", look, api.ErrRange)
	}
	for _, n := range []int{1 << 30, -1 << 30} {
		for k := range 3 {
			look := [3]int{}
			look[k] = n
			if _, e := Facets(plain(), number("0"), number("6"), look); e != api.OK {
				t.Errorf("Facets in the direction %v returns the error %d", look, e)
			}
		}
	}
}

// R3: every result is new.
func TestFacetsAreNew(t *testing.T) {
	first, _ := Facets(hill(), number("0"), number("0"), [3]int{3, 2, 1})
	first[0], first[1] = [2]int{7, 7}, [2]int{8, 8}
	if second, _ := Facets(hill(), number("0"), number("0"), [3]int{3, 2, 1}); !slices.Equal(second, [][2]int{{0, 0}, {1, 0}, {1, 1}}) {
		t.Errorf("the facets are now %v", second)
	}
}
