package terrain

import (
	"math"
	"math/rand"
	"testing"

	"skymosaic/api"
	"skymosaic/wire"
)

// codeOf is what P10.6 says.
func codeOf(t api.Terrain) []byte {
	w := wire.Writer{}
	w.Int(t.X)
	w.Int(t.Y)
	w.Int(t.Step)
	w.Int(t.Cols)
	w.Int(t.Rows)
	w.Ints(t.Heights)
	return w.Done()
}

func checkNoCode(t *testing.T, b []byte) {
	t.Helper()
	if got, e := Decode(b); !isZero(got) || e != api.ErrForm {
		t.Fatalf("Decode(%v) = %v, %d, want zeros, ErrForm", b, got, e)
	}
}

// grounds are valid terrains and other ones.
func grounds(source *rand.Rand) []api.Terrain {
	list, _ := invalid()
	list = append(list, api.Terrain{}, sample(), plain(),
		api.Terrain{X: 1, Y: 2, Step: 3, Cols: 4, Rows: 5},
		api.Terrain{X: math.MinInt, Y: math.MaxInt, Step: math.MinInt, Cols: math.MaxInt, Rows: math.MinInt, Heights: []int{math.MaxInt, 0, math.MinInt}})
	for range 40 {
		list = append(list, randomTerrain(source))
		ground := api.Terrain{X: int(source.Uint64()), Y: int(source.Uint64()), Step: int(source.Uint64()), Cols: source.Intn(300) - 150, Rows: int(source.Uint64())}
		for range source.Intn(5) {
			ground.Heights = append(ground.Heights, int(source.Uint64()))
		}
		list = append(list, ground)
	}
	return list
}

// P10.6.
func TestCodes(t *testing.T) {
	for _, ground := range grounds(rand.New(rand.NewSource(40))) {
		b := Encode(ground)
		if want := codeOf(ground); string(b) != string(want) {
			t.Fatalf("Encode(%v) = %v, want %v", ground, b, want)
		}
		if got, e := Decode(b); !equal(got, ground) || e != api.OK {
			t.Fatalf("Decode(%v) = %v, %d, want %v, OK", b, got, e, ground)
		}
		for size := range b {
			checkNoCode(t, b[:size])
		}
		checkNoCode(t, append(b, 0))
		checkNoCode(t, append(b, 5, 1))
	}
}

// P10.6: every byte matters: another one leads to another terrain, with that encoding, or to none.
func TestChangedCodes(t *testing.T) {
	for _, ground := range []api.Terrain{{}, sample(), plain(), randomTerrain(rand.New(rand.NewSource(41)))} {
		b := Encode(ground)
		for i := range b {
			for change := 1; change < 256; change++ {
				b[i] ^= byte(change)
				if got, e := Decode(b); e == api.OK {
					if again := Encode(got); string(again) != string(b) || equal(got, ground) {
						t.Fatalf("Decode(%v) = %v, whose encoding is %v", b, got, again)
					}
				} else {
					checkNoCode(t, b)
				}
				b[i] ^= byte(change)
			}
		}
	}
}

// P10.6: numbers that are not written as shortly as possible, or too long, in each place, though all else is well-formed.
func TestMalformedCodes(t *testing.T) {
	b := []byte{2, 4, 6, 8, 10, 2, 12, 14}
	if got, e := Decode(b); !equal(got, api.Terrain{X: 1, Y: 2, Step: 3, Cols: 4, Rows: 5, Heights: []int{6, 7}}) || e != api.OK {
		t.Fatalf("Decode(%v) = %v, %d", b, got, e)
	}
	for i := range b {
		for _, wrong := range [][]byte{{128, 0}, {130, 0}, {255, 255, 255, 255, 255, 255, 255, 255, 255, 2}, {128}, {}} {
			checkNoCode(t, append(append(append([]byte{}, b[:i]...), wrong...), b[i+1:]...))
		}
	}
	for _, size := range []byte{0, 1, 3, 127} {
		checkNoCode(t, append(append([]byte{}, b[:5]...), size, 12, 14))
	}
	checkNoCode(t, nil)
	checkNoCode(t, append(b[:5:5], 255, 255, 255, 255, 255, 255, 255, 255, 255, 1))
}
