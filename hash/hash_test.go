package hash

import (
	"encoding/binary"
	"math"
	"slices"
	"testing"
)

// P1.1. The sums here and the hashes below were computed from the chapter by a program in another language.
func TestSumOfKnownArguments(t *testing.T) {
	for _, c := range []struct {
		label string
		words []int
		want  uint64
	}{
		{"", nil, 0},
		{"", []int{}, 0},
		{"", []int{0}, 0x9c60c22591400851},
		{"a", nil, 0x80b5f6f3a21f8298},
		{"a", []int{5}, 0xdbbe367e93b58544},
		{"a", []int{6}, 0x49fc8178b938ecaf},
		{"a", []int{-1}, 0x09ee594d249f2a64},
		{"a", []int{math.MinInt, math.MaxInt}, 0xd44abd7a8ac43800},
		{"abcdefgh", []int{1, 2}, 0xe9104ce71959b0f2},
		{"abcdefghi", []int{1, 2, 3}, 0x64b540f187a31dd9},
		{"\u00e4", []int{7}, 0x2784118a09a6dd60},
		{"\xff\x00", []int{7}, 0x205c5c6e0545567f},
	} {
		if got := Sum(c.label, c.words...); got != c.want {
			t.Errorf("Sum(%q, %v) = %#x, want %#x", c.label, c.words, got, c.want)
		}
	}
}

// P1.2.
func TestBytesOfKnownArguments(t *testing.T) {
	for _, c := range []struct {
		label string
		b     []byte
		want  uint64
	}{
		{"", nil, 0x9c60c22591400851},
		{"a", nil, 0xaeccc2c435d70264},
		{"a", []byte{}, 0xaeccc2c435d70264},
		{"a", []byte{1, 2}, 0x5cd85cbd93fd0838},
		{"a", []byte{255, 255, 255, 255, 255, 255, 255, 255}, 0x95b8171fd292e263},
		{"block", []byte{1, 2, 3, 4, 5, 6, 7, 8, 9, 10, 11, 12, 13, 14, 15, 16, 17, 18, 19, 20}, 0xd0b0153eaf05129b},
	} {
		if got := Bytes(c.label, c.b); got != c.want {
			t.Errorf("Bytes(%q, %v) = %#x, want %#x", c.label, c.b, got, c.want)
		}
	}
}

// P1.2.
func TestPairOfKnownArguments(t *testing.T) {
	for _, c := range []struct{ a, b, want uint64 }{
		{0, 0, 0xa37203a6cd944451},
		{1, 2, 0xd5e6a2a3a39a5df8},
		{2, 1, 0x9a705c9df9b46602},
		{1 << 63, math.MaxUint64, 0x4f9e83b9e34dbe6e},
	} {
		if got := Pair(c.a, c.b); got != c.want {
			t.Errorf("Pair(%#x, %#x) = %#x, want %#x", c.a, c.b, got, c.want)
		}
		if got := Sum("pair", int(c.a), int(c.b)); got != c.want {
			t.Errorf("Sum of pair %#x, %#x = %#x, want %#x", c.a, c.b, got, c.want)
		}
	}
}

func TestExamplesOfTheChapter(t *testing.T) {
	if Sum("a", 5) == Sum("a", 6) {
		t.Error(`Sum("a", 5) equals Sum("a", 6)`)
	}
	if Bytes("a", []byte{1, 2}) != Sum("a", 513, 2) {
		t.Error(`Bytes("a", 1 2) differs from Sum("a", 513, 2)`)
	}
}

// paddedWords are the words of b, found by another way than that of the package.
func paddedWords(b []byte) []uint64 {
	padded := append(slices.Clone(b), make([]byte, 7)...)
	words := []uint64{}
	for len(padded) >= 8 {
		words = append(words, binary.LittleEndian.Uint64(padded))
		padded = padded[8:]
	}
	return words
}

// mixed are the words that P1.1 lists, in their order.
func mixed(label string, words []int) []uint64 {
	list := append(paddedWords([]byte(label)), uint64(len(label)), uint64(len(words)))
	for _, n := range words {
		list = append(list, uint64(n))
	}
	return append(list, 0)
}

// ordinaryBytes are n bytes of which none is zero.
func ordinaryBytes(n int) []byte {
	b := make([]byte, n)
	for i := range b {
		b[i] = byte(i*37%255 + 1)
	}
	return b
}

// P1.1.
func TestSumMixesTheListOfWordsInOrder(t *testing.T) {
	for n := range 40 {
		label := string(ordinaryBytes(n))
		for k := range 10 {
			words := make([]int, k)
			for i := range words {
				words[i] = (i - 3) * 0x123456789abcdef
			}
			want := uint64(0)
			for _, w := range mixed(label, words) {
				m := (want ^ w) * 0x9E3779B97F4A7C15
				want = m ^ m>>32
			}
			if got := Sum(label, words...); got != want {
				t.Errorf("Sum of %d bytes and %d words = %#x, want %#x", n, k, got, want)
			}
		}
	}
}

// P1.2.
func TestBytesIsTheSumOfTheWordsAndTheLength(t *testing.T) {
	for n := range 70 {
		b := ordinaryBytes(n)
		words := []int{}
		for _, w := range paddedWords(b) {
			words = append(words, int(w))
		}
		words = append(words, n)
		for _, label := range []string{"", "x", "abcdefgh", "abcdefghi"} {
			if Bytes(label, b) != Sum(label, words...) {
				t.Errorf("Bytes(%q) of %d bytes is not the sum of its words", label, n)
			}
		}
	}
}

// P1.2, with rules R1 and R3.
func TestOnlyTheBytesOfTheSliceCount(t *testing.T) {
	long := ordinaryBytes(32)
	before := slices.Clone(long)
	for n := range long {
		part := long[:n]
		if Bytes("x", part) != Bytes("x", slices.Clone(part)) {
			t.Errorf("bytes behind the first %d change their hash", n)
		}
	}
	if !slices.Equal(long, before) {
		t.Error("Bytes changed its argument")
	}
}

// P1.1, with rules R1 and R3.
func TestArgumentsOfSumStay(t *testing.T) {
	all := []int{1, 2, 3, 4}
	first := Sum("x", all[:2]...)
	if !slices.Equal(all, []int{1, 2, 3, 4}) {
		t.Error("Sum changed its words, or those behind them")
	}
	if Sum("x", 1, 2) != first {
		t.Error("the same words have another sum")
	}
}

// P1.1 and P1.2.
func TestLengthsAreTold(t *testing.T) {
	for n := range 20 {
		zeros, more := make([]int, n), make([]int, n+1)
		if Sum("x", zeros...) == Sum("x", more...) {
			t.Errorf("%d zeros have the sum of one more", n)
		}
		b := make([]byte, n)
		if Bytes("x", b) == Bytes("x", append(b, 0)) {
			t.Errorf("%d zero bytes have the hash of one more", n)
		}
		if Sum("x"+string(b)) == Sum("x"+string(b)+"\x00") {
			t.Errorf("a label with %d zero bytes has the sum of one with one more", n)
		}
	}
	if Sum("x", 0) == Sum("x\x00", 0) || Sum("") == Sum("", 0) {
		t.Error("lengths do not change a sum")
	}
}

// unmix returns the state from which mixing in the word led to the given one; it is the word, too, that led there
// from that state if the state is given instead of the word.
func unmix(state, wordOrState uint64) uint64 {
	inverse := uint64(1)
	for range 6 {
		inverse *= 2 - multiplier*inverse
	}
	m := state ^ state>>32
	return m*inverse ^ wordOrState
}

var someWords = []uint64{0, 1, 2, 513, 1 << 31, 1 << 32, 1 << 62, 1 << 63, math.MaxUint64, 0x0123456789abcdef, 0xfedcba9876543210}

// P1.3.
func TestMixingIsABijection(t *testing.T) {
	for _, state := range someWords {
		for _, word := range someWords {
			next := mix(state, word)
			if unmix(next, word) != state {
				t.Errorf("the state %#x is lost under the word %#x", state, word)
			}
			if unmix(next, state) != word {
				t.Errorf("the word %#x is lost under the state %#x", word, state)
			}
		}
	}
}

// otherWord finds the word at one place of a list from the sum of all of it and the other words.
func otherWord(list []uint64, place int, sum uint64) uint64 {
	before := uint64(0)
	for _, w := range list[:place] {
		before = mix(before, w)
	}
	after := sum
	for i := len(list) - 1; i > place; i-- {
		after = unmix(after, list[i])
	}
	return unmix(after, before)
}

// P1.3.
func TestEachWordIsToldByTheSumAndTheOthers(t *testing.T) {
	label := "abcdefghi"
	words := []int{3, -1, 0, math.MinInt}
	for place := range words {
		for _, w := range someWords {
			words[place] = int(w)
			list := mixed(label, words)
			at := len(list) - 1 - len(words) + place
			if got := otherWord(list, at, Sum(label, words...)); got != w {
				t.Errorf("word %d is %#x, want %#x", place, got, w)
			}
		}
	}
}

// P1.3.
func TestOneOtherWordHasAnotherSum(t *testing.T) {
	for place := range 4 {
		seen := map[uint64]int{}
		for n := -300; n < 300; n++ {
			words := []int{7, 7, 7, 7}
			words[place] = n
			sum := Sum("x", words...)
			if old, ok := seen[sum]; ok {
				t.Errorf("%d and %d at place %d have the same sum", old, n, place)
			}
			seen[sum] = n
		}
	}
}

// P1.3.
func TestOneOtherGroupHasAnotherHash(t *testing.T) {
	for n := 1; n < 30; n++ {
		b := ordinaryBytes(n)
		for start := 0; start < n; start += 8 {
			group := b[start:min(start+8, n)]
			kept := slices.Clone(group)
			seen := map[uint64]bool{Bytes("x", b): true}
			for i := range group {
				for _, delta := range []byte{1, 2, 0x80} {
					group[i] += delta
					if sum := Bytes("x", b); seen[sum] {
						t.Errorf("a change of byte %d of %d does not change the hash", start+i, n)
					} else {
						seen[sum] = true
					}
				}
			}
			copy(group, kept)
		}
	}
}

// P1.3.
func TestLabelsThatDifferInOneGroup(t *testing.T) {
	for n := 1; n < 30; n++ {
		b := ordinaryBytes(n)
		for i := range b {
			other := slices.Clone(b)
			for delta := 1; delta < 256; delta++ {
				other[i] = b[i] + byte(delta)
				if Sum(string(b), 1, 2) == Sum(string(other), 1, 2) {
					t.Errorf("labels of %d bytes that differ in byte %d have the same sum", n, i)
				}
			}
		}
	}
}

// P1.4.
func TestPairIsInjectiveInEachArgument(t *testing.T) {
	for _, fixed := range someWords {
		for _, free := range someWords {
			first := mixed("pair", []int{int(free), int(fixed)})
			if got := otherWord(first, len(first)-3, Pair(free, fixed)); got != free {
				t.Errorf("the first argument %#x of a pair with %#x reads as %#x", free, fixed, got)
			}
			second := mixed("pair", []int{int(fixed), int(free)})
			if got := otherWord(second, len(second)-2, Pair(fixed, free)); got != free {
				t.Errorf("the second argument %#x of a pair with %#x reads as %#x", free, fixed, got)
			}
		}
	}
	seen := map[uint64]bool{}
	for n := range uint64(1000) {
		if sum := Pair(n<<54, 9); seen[sum] {
			t.Errorf("the first argument %#x repeats a hash", n<<54)
		} else {
			seen[sum] = true
		}
	}
}

// The iterator function of P1.2 keeps to what a range over it expects.
func TestWordsCanBeLeftEarly(t *testing.T) {
	for n := range 4 {
		got := []uint64{}
		for w := range wordsOf(ordinaryBytes(20)) {
			if len(got) == n {
				break
			}
			got = append(got, w)
		}
		if !slices.Equal(got, paddedWords(ordinaryBytes(20))[:n]) {
			t.Errorf("the first %d words are %v", n, got)
		}
	}
}
