package polygon

import (
	"bytes"
	"math"
	"math/rand"
	"slices"
	"testing"

	"skymosaic/api"
	"skymosaic/wire"
)

// codeOf is what P13.7 says.
func codeOf(p api.Polygon) []byte {
	w := wire.Writer{}
	w.Int(len(p.Rings))
	for _, ring := range p.Rings {
		w.Int(len(ring))
		for _, vertex := range ring {
			w.Int(vertex.X)
			w.Int(vertex.Y)
		}
	}
	return w.Done()
}

func checkCode(t *testing.T, p api.Polygon) []byte {
	t.Helper()
	before := cloned(p)
	b := Encode(p)
	if want := codeOf(p); !bytes.Equal(b, want) {
		t.Fatalf("Encode(%v) = %v, want %v", p.Rings, b, want)
	}
	original := bytes.Clone(b)
	if got, e := Decode(b); !areEqual(got, p) || e != api.OK {
		t.Fatalf("Decode(%v) = %v, %d, want %v, OK", b, got.Rings, e, p.Rings)
	}
	if !areEqual(p, before) || !bytes.Equal(b, original) {
		t.Fatalf("Encode or Decode changes %v or %v", before.Rings, original)
	}
	return b
}

func checkNoCode(t *testing.T, b []byte) {
	t.Helper()
	if p, e := Decode(b); len(p.Rings) != 0 || e != api.ErrForm {
		t.Fatalf("Decode(%v) = %v, %d, want no rings, ErrForm", b, p.Rings, e)
	}
}

func someRings(source *rand.Rand) (p api.Polygon) {
	for range source.Intn(5) {
		ring := []api.Point{}
		for range source.Intn(6) {
			ring = append(ring, api.Point{X: int(source.Uint64()) >> source.Intn(64), Y: int(source.Uint64()) >> source.Intn(64)})
		}
		p.Rings = append(p.Rings, ring)
	}
	return p
}

// P13.7: polygons, valid or not.
func TestCodes(t *testing.T) {
	source := rand.New(rand.NewSource(40))
	list := []api.Polygon{
		{}, {Rings: [][]api.Point{nil}}, {Rings: [][]api.Point{{}, nil, {{X: 5}}, {}}}, Rect(0, 0, 2, 2),
		{Rings: [][]api.Point{{{X: math.MaxInt, Y: math.MinInt}, {X: 63, Y: -64}, {X: 64, Y: -65}}}},
		{Rings: make([][]api.Point, 200)}, columns(15, 256), {Rings: slices.Repeat([][]api.Point{{{X: -1}}}, 70)},
	}
	for range 200 {
		list = append(list, mixed(source), someRings(source))
	}
	for _, p := range list {
		b := checkCode(t, p)
		for size := range b {
			checkNoCode(t, b[:size])
		}
		checkNoCode(t, append(bytes.Clone(b), 0))
		checkNoCode(t, append(bytes.Clone(b), b...))
	}
	if b, want := Encode(Rect(0, 0, 2, 2)), []byte{2, 8, 0, 0, 4, 0, 4, 4, 0, 4}; !bytes.Equal(b, want) {
		t.Errorf("Encode = %v, want %v", b, want)
	}
}

// P13.7: what comes back is in new memory.
func TestMemoryOfCodes(t *testing.T) {
	p := polygonOf("0 0, 9 0, 9 9; 5 1, 6 1, 6 2")
	b := Encode(p)
	first, _ := Decode(b)
	for i, ring := range first.Rings {
		first.Rings[i] = append(ring, api.Point{X: 3})
		ring[0].X = 77
	}
	if second, e := Decode(b); !areEqual(second, p) || e != api.OK {
		t.Errorf("Decode(%v) = %v, %d after the first result was changed", b, second.Rings, e)
	}
	clear(b)
	if again := Encode(p); !bytes.Equal(again, codeOf(p)) {
		t.Errorf("Encode = %v after the first result was changed", again)
	}
}

// P13.7: numbers of rings or vertices that are negative, or too great for the bytes that follow; and malformed numbers.
func TestMalformedCodes(t *testing.T) {
	checkNoCode(t, nil)
	b := Encode(polygonOf("1 2, 3 4; 5 6"))
	for i := range b {
		for _, n := range []int{-1, -2, math.MinInt, math.MaxInt, 1 << 40, 1 << 62, len(b), len(b) + 1, 100} {
			w := wire.Writer{}
			w.Int(n)
			changed := slices.Concat(b[:i], w.Done(), b[i+1:])
			if p, e := Decode(changed); e != api.OK || !bytes.Equal(codeOf(p), changed) {
				checkNoCode(t, changed)
			}
		}
		for _, wrong := range [][]byte{{128, 0}, {255, 255, 255, 255, 255, 255, 255, 255, 255, 2}, {132, 128, 0}} {
			checkNoCode(t, slices.Concat(b[:i], wrong, b[i+1:]))
		}
	}
	for _, b := range [][]byte{{1}, {3}, {1, 0}, {3, 0, 0}, {2, 1}, {2, 3, 0, 0}, {2}, {2, 2}, {2, 2, 0}, {4, 0}, {0, 0}, {1, 1}, {2, 1, 0}} {
		checkNoCode(t, b)
	}
}

// P13.7: another byte leads to another polygon, with that encoding, or to none.
func TestChangedCodes(t *testing.T) {
	for _, p := range []api.Polygon{Rect(0, 0, 2, 2), polygonOf("0 0, 900 0, 900 900; 500 1, 600 1, 600 2"), {Rings: make([][]api.Point, 3)}} {
		b := Encode(p)
		for i := range b {
			for change := 1; change < 256; change++ {
				changed := bytes.Clone(b)
				changed[i] ^= byte(change)
				if got, e := Decode(changed); e == api.OK && !areEqual(got, p) {
					if again := codeOf(got); !bytes.Equal(again, changed) {
						t.Fatalf("Decode(%v) = %v, whose encoding is %v", changed, got.Rings, again)
					}
				} else {
					checkNoCode(t, changed)
				}
			}
		}
	}
}

// P13.7: long bytes of numbers that promise much end soon.
func TestLongCodes(t *testing.T) {
	for _, digit := range []byte{0, 2, 4, 126, 127, 128, 255} {
		b := bytes.Repeat([]byte{digit}, 100000)
		if p, e := Decode(b); e == api.OK && !bytes.Equal(codeOf(p), b) || e != api.OK && len(p.Rings) > 0 {
			t.Errorf("Decode of %ds returns %d rings, %d", digit, len(p.Rings), e)
		}
		w := wire.Writer{}
		w.Int(len(b))
		w.Int(len(b))
		checkNoCode(t, append(w.Done(), bytes.Repeat([]byte{0xff}, len(b))...))
	}
	checkCode(t, api.Polygon{Rings: make([][]api.Point, 100000)})
	checkCode(t, api.Polygon{Rings: [][]api.Point{make([]api.Point, 100000)}})
}
