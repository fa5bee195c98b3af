package proj

import (
	"bytes"
	"math"
	"math/rand"
	"testing"

	"skymosaic/api"
	"skymosaic/wire"
)

// codeOf is what P12.7 says.
func codeOf(p api.Proj) []byte {
	w := wire.Writer{}
	for _, n := range p.M {
		w.Int(n)
	}
	return w.Done()
}

func checkNoCode(t *testing.T, b []byte) {
	t.Helper()
	if p, e := Decode(b); p != (api.Proj{}) || e != api.ErrForm {
		t.Fatalf("Decode(%v) = %v, %d, want zeros, ErrForm", b, p.M, e)
	}
}

// P12.7.
func TestCodes(t *testing.T) {
	source := rand.New(rand.NewSource(40))
	list := []api.Proj{{}, identity, sample, proj(math.MaxInt, math.MinInt, 1, -1, 0, 63, -64, 64, -65)}
	for range 200 {
		p := api.Proj{}
		for i := range p.M {
			p.M[i] = int(source.Uint64()) >> source.Intn(64)
		}
		list = append(list, p, randomProj(source, 1<<30))
	}
	for _, p := range list {
		b := Encode(p)
		if want := codeOf(p); !bytes.Equal(b, want) {
			t.Fatalf("Encode(%v) = %v, want %v", p.M, b, want)
		}
		got, e := Decode(b)
		checkProj(t, "Decode", got, e, p, api.OK)
		for size := range b {
			checkNoCode(t, b[:size])
		}
		checkNoCode(t, append(bytes.Clone(b), 0))
		checkNoCode(t, append(bytes.Clone(b), b...))
	}
	if b, want := Encode(sample), []byte{4, 0, 6, 0, 4, 10, 0, 0, 2}; !bytes.Equal(b, want) {
		t.Errorf("Encode(%v) = %v, want %v", sample.M, b, want)
	}
}

// P12.7: bytes that are no number, in each place, though all that follows is well-formed.
func TestMalformedCodes(t *testing.T) {
	checkNoCode(t, nil)
	b := Encode(sample)
	for i := range b {
		for _, wrong := range [][]byte{{128, 0}, {255, 255, 255, 255, 255, 255, 255, 255, 255, 2}, {132, 128, 0}} {
			checkNoCode(t, append(append(bytes.Clone(b[:i]), wrong...), b[i+1:]...))
		}
	}
}

// P12.7: another byte leads to another projection, with that encoding, or to none.
func TestChangedCodes(t *testing.T) {
	for _, p := range []api.Proj{sample, corners, proj(1<<30, 300, -1<<30, 0, 1<<29, 7, 70000, -5, 1)} {
		b := Encode(p)
		for i := range b {
			for change := 1; change < 256; change++ {
				changed := bytes.Clone(b)
				changed[i] ^= byte(change)
				if got, e := Decode(changed); e == api.OK && got != p {
					if again := Encode(got); !bytes.Equal(again, changed) {
						t.Fatalf("Decode(%v) = %v, whose encoding is %v", changed, got.M, again)
					}
				} else {
					checkNoCode(t, changed)
				}
			}
		}
	}
}
