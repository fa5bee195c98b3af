package sensor

import (
	"math"
	"math/rand"
	"testing"

	"skymosaic/api"
	"skymosaic/poly"
	"skymosaic/wire"
)

// codeOf is what P9.7 says, with other bytes than poly.Encode in one place, if there are some.
func codeOf(s api.Sensor, place int, other []byte) []byte {
	w := wire.Writer{}
	for i, part := range parts {
		if i == place {
			w.Raw(other)
			continue
		}
		w.Raw(poly.Encode(*part.of(&s)))
	}
	for _, n := range s.Look {
		w.Int(n)
	}
	return w.Done()
}

func checkNoCode(t *testing.T, b []byte) {
	t.Helper()
	if s, e := Decode(b); s != (api.Sensor{}) || e != api.ErrForm {
		t.Fatalf("Decode(%v) = %v, %d, want zeros, ErrForm", b, s, e)
	}
}

// models are valid ones and other ones.
func models(t *testing.T, source *rand.Rand) []api.Sensor {
	list, _ := invalid()
	list = append(list, api.Sensor{}, plain(), sample(t))
	for range 50 {
		list = append(list, randomModel(source, 3, 1<<30), randomModel(source, 1, 90))
		s := api.Sensor{}
		for _, part := range parts {
			*part.of(&s) = randomPoly(source, math.MaxInt)
		}
		s.Look = [3]int{int(source.Uint64()), math.MinInt, math.MaxInt}
		list = append(list, s)
	}
	return list
}

// P9.7.
func TestCodes(t *testing.T) {
	for _, s := range models(t, rand.New(rand.NewSource(10))) {
		b := Encode(s)
		if want := codeOf(s, -1, nil); string(b) != string(want) {
			t.Fatalf("Encode(%v) = %v, want %v", s, b, want)
		}
		if got, e := Decode(b); got != s || e != api.OK {
			t.Fatalf("Decode(%v) = %v, %d, want %v, OK", b, got, e, s)
		}
		for size := range b {
			checkNoCode(t, b[:size])
		}
		checkNoCode(t, append(b, 0))
		checkNoCode(t, append(b, 5, 1))
	}
}

// P9.7: every byte matters: another one leads to another model, with that encoding, or to none.
func TestChangedCodes(t *testing.T) {
	for _, s := range []api.Sensor{plain(), sample(t), randomModel(rand.New(rand.NewSource(11)), 3, 1<<30)} {
		b := Encode(s)
		for i := range b {
			for _, change := range []byte{1, 2, 64, 128, 255} {
				b[i] ^= change
				if got, e := Decode(b); e == api.OK {
					if again := Encode(got); string(again) != string(b) {
						t.Fatalf("Decode(%v) = %v, whose encoding is %v", b, got, again)
					}
				} else {
					checkNoCode(t, b)
				}
				b[i] ^= change
			}
		}
	}
}

// P9.7: in the place of a polynomial there are bytes that are none, though all that follows is well-formed.
func TestCodesWithMalformedPolynomials(t *testing.T) {
	s := sample(t)
	for place, part := range parts {
		code := poly.Encode(*part.of(&s))
		for _, wrong := range [][]byte{nil, code[:19], append(code, 0), append(code, 1), append([]byte{128, 0}, code[1:]...), {5}} {
			checkNoCode(t, codeOf(s, place, wrong))
		}
	}
	b := Encode(s)
	for _, wrong := range [][]byte{{128, 0}, {255, 255, 255, 255, 255, 255, 255, 255, 255, 2}, {128}} {
		for i := range 3 {
			start := len(b) - 3 + i
			checkNoCode(t, append(append(append([]byte{}, b[:start]...), wrong...), b[start+1:]...))
		}
	}
}
