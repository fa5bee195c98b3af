package wire

import (
	"encoding/binary"
	"math"
	"math/bits"
	"math/rand"
	"reflect"
	"slices"
	"strings"
	"testing"

	"skymosaic/api"
)

// kind names one of the methods that a Writer and a Reader both have.
type kind int

const (
	kindInt kind = iota
	kindUint
	kindBool
	kindText
	kindRaw
	kindInts
	kinds
)

func (k kind) String() string {
	return [...]string{"Int", "Uint", "Bool", "Text", "Raw", "Ints"}[k]
}

// read calls the method on r.
func (k kind) read(r *Reader) any {
	switch k {
	case kindInt:
		return r.Int()
	case kindUint:
		return r.Uint()
	case kindBool:
		return r.Bool()
	case kindText:
		return r.Text()
	case kindRaw:
		return r.Raw()
	}
	return r.Ints()
}

// kindOf is the method for a value.
func kindOf(v any) kind {
	switch v.(type) {
	case int:
		return kindInt
	case uint64:
		return kindUint
	case bool:
		return kindBool
	case string:
		return kindText
	case []byte:
		return kindRaw
	}
	return kindInts
}

// write calls the method for v on w.
func write(w *Writer, v any) {
	switch v := v.(type) {
	case int:
		w.Int(v)
	case uint64:
		w.Uint(v)
	case bool:
		w.Bool(v)
	case string:
		w.Text(v)
	case []byte:
		w.Raw(v)
	case []int:
		w.Ints(v)
	}
}

func written(values ...any) []byte {
	w := Writer{}
	for _, v := range values {
		write(&w, v)
	}
	return w.Done()
}

// encoded is the encoding of v as the words of the chapter define it, found by another way than that of the package.
func encoded(v any) []byte {
	switch v := v.(type) {
	case int:
		return binary.AppendVarint(nil, int64(v))
	case uint64:
		return binary.AppendUvarint(nil, v)
	case bool:
		if v {
			return []byte{1}
		}
		return []byte{0}
	case string:
		return append(encoded(uint64(len(v))), v...)
	case []byte:
		return append(encoded(uint64(len(v))), v...)
	}
	b := encoded(uint64(len(v.([]int))))
	for _, n := range v.([]int) {
		b = append(b, encoded(n)...)
	}
	return b
}

// isZero tells whether v is the zero value of its type, where an empty slice counts as nil.
func isZero(v any) bool {
	switch v := v.(type) {
	case []byte:
		return len(v) == 0
	case []int:
		return len(v) == 0
	}
	return reflect.ValueOf(v).IsZero()
}

func equal(a, b any) bool {
	return reflect.DeepEqual(a, b) || isZero(a) && isZero(b) && kindOf(a) == kindOf(b)
}

// repeated is n times the byte b, and the tail.
func repeated(b byte, n int, tail ...byte) []byte {
	return append(slices.Repeat([]byte{b}, n), tail...)
}

var someNumbers = []uint64{0, 1, 2, 63, 64, 65, 127, 128, 129, 255, 256, 300, 1<<14 - 1, 1 << 14, 1<<21 - 1, 1 << 21, 1<<32 - 1, 1 << 32,
	1<<49 - 1, 1 << 49, 1<<56 - 1, 1 << 56, 1<<63 - 1, 1 << 63, 1<<63 + 1, math.MaxUint64 - 1, math.MaxUint64}

// someValues has values of every kind, with the least and greatest ones and those where encodings become longer.
func someValues() []any {
	values := []any{false, true, "", "ab", "\x00", "\xff\xfe", "\u00e4\u20ac", strings.Repeat("x", 127), strings.Repeat("x", 128), strings.Repeat("y", 20000),
		[]byte{}, []byte{0}, []byte{128, 0}, repeated(255, 127), repeated(255, 128), repeated(7, 20000),
		[]int{}, []int{0}, []int{-1, 0, 1}, []int{math.MinInt, math.MaxInt}, make([]int, 127), make([]int, 128)}
	for _, n := range someNumbers {
		values = append(values, n, int(n), -int(n), []int{int(n), -int(n), 5})
	}
	return values
}

func TestExamplesOfTheChapter(t *testing.T) {
	for _, c := range []struct {
		value any
		want  []byte
	}{{uint64(300), []byte{172, 2}}, {-1, []byte{1}}, {"ab", []byte{2, 97, 98}}} {
		if got := written(c.value); !slices.Equal(got, c.want) {
			t.Errorf("%v(%v) appends %v, want %v", kindOf(c.value), c.value, got, c.want)
		}
	}
	r := Read([]byte{128, 0})
	if n := r.Int(); n != 0 || r.End() != api.ErrForm {
		t.Errorf("Int from 128, 0 = %d, with the error %d, want 0 and ErrForm", n, r.End())
	}
}

// P2.1. The encodings here are written out from the words of the chapter.
func TestEncodingsOfKnownValues(t *testing.T) {
	for _, c := range []struct {
		value any
		want  []byte
	}{
		{uint64(0), []byte{0}},
		{uint64(1), []byte{1}},
		{uint64(127), []byte{127}},
		{uint64(128), []byte{128, 1}},
		{uint64(16383), []byte{255, 127}},
		{uint64(16384), []byte{128, 128, 1}},
		{uint64(1 << 63), repeated(128, 9, 1)},
		{uint64(math.MaxUint64), repeated(255, 9, 1)},
		{0, []byte{0}},
		{1, []byte{2}},
		{63, []byte{126}},
		{-64, []byte{127}},
		{64, []byte{128, 1}},
		{-65, []byte{129, 1}},
		{math.MaxInt, append([]byte{254}, repeated(255, 8, 1)...)},
		{math.MinInt, repeated(255, 9, 1)},
		{false, []byte{0}},
		{true, []byte{1}},
		{"", []byte{0}},
		{"\x00", []byte{1, 0}},
		{"\xff\x80", []byte{2, 255, 128}},
		{"\u00e4", []byte{2, 195, 164}},
		{[]byte(nil), []byte{0}},
		{[]byte{}, []byte{0}},
		{[]byte{0, 255, 128}, []byte{3, 0, 255, 128}},
		{[]int(nil), []byte{0}},
		{[]int{}, []byte{0}},
		{[]int{0, -1, 1, 64}, []byte{4, 0, 1, 2, 128, 1}},
	} {
		if got := written(c.value); !slices.Equal(got, c.want) {
			t.Errorf("%v(%v) appends %v, want %v", kindOf(c.value), c.value, got, c.want)
		}
	}
}

// P2.1.
func TestWriterAppendsInOrder(t *testing.T) {
	values := someValues()
	want := []byte{}
	w := Writer{}
	for _, v := range values {
		if got := written(v); !slices.Equal(got, encoded(v)) {
			t.Errorf("%v(%v) appends %v, want %v", kindOf(v), v, got, encoded(v))
		}
		write(&w, v)
		want = append(want, encoded(v)...)
		if !slices.Equal(w.Done(), want) {
			t.Fatalf("after %v(%v), the bytes are not all that were appended", kindOf(v), v)
		}
	}
}

// P2.1, with rule R3.
func TestDoneReturnsNewSlices(t *testing.T) {
	w := Writer{}
	if b := w.Done(); len(b) != 0 {
		t.Errorf("the zero Writer contains %v", b)
	}
	for n := range 100 {
		w.Uint(uint64(n))
		first, second := w.Done(), w.Done()
		for i := range first {
			first[i] = 200
		}
		first = append(first, 201)
		w.Uint(uint64(n))
		if !slices.Equal(second[2*n:], []byte{byte(n)}) {
			t.Errorf("a slice of Done ends in %v, want %d", second[2*n:], n)
		}
		if got := w.Done(); !slices.Equal(got[2*n:], []byte{byte(n), byte(n)}) {
			t.Errorf("bytes from %d on are %v, want %d twice", 2*n, got[2*n:], n)
		}
		if first[2*n+1] != 201 {
			t.Error("a slice of Done is changed by what is appended later")
		}
	}
}

// P2.1, with rule R3.
func TestArgumentsOfWriterStay(t *testing.T) {
	raw, ints := []byte{1, 2, 3}, []int{-4, 5, 600}
	w := Writer{}
	w.Raw(raw[:2])
	w.Ints(ints[:2])
	if !slices.Equal(raw, []byte{1, 2, 3}) || !slices.Equal(ints, []int{-4, 5, 600}) {
		t.Errorf("the arguments became %v and %v", raw, ints)
	}
	raw[0], ints[0] = 100, 100
	if got := w.Done(); !slices.Equal(got, []byte{2, 1, 2, 2, 7, 10}) {
		t.Errorf("changed arguments changed the bytes to %v", got)
	}
}

// P2.2, with rule R3.
func TestReadCopiesItsArgument(t *testing.T) {
	b := []byte{1, 2, 3, 4}
	r := Read(b[:3])
	b[0], b[3] = 50, 51
	if got := r.Raw(); !slices.Equal(got, []byte{2}) {
		t.Errorf("Raw = %v, want 2", got)
	}
	if r.Uint() != 3 || r.End() != api.OK {
		t.Error("the reader does not end where its argument did")
	}
	if !slices.Equal(b, []byte{50, 2, 3, 51}) {
		t.Errorf("the argument became %v", b)
	}
}

// P2.2.
func TestReaderOfNothing(t *testing.T) {
	for _, b := range [][]byte{nil, {}} {
		if end := Read(b).End(); end != api.OK {
			t.Errorf("End of nothing = %d, want OK", end)
		}
		for k := range kinds {
			r := Read(b)
			if v := k.read(r); !isZero(v) || r.End() != api.ErrMore {
				t.Errorf("%v of nothing = %v, with the error %d, want ErrMore", k, v, r.End())
			}
		}
	}
}

// P2.2.
func TestValuesAreReadOneAfterTheOther(t *testing.T) {
	r := Read([]byte{172, 2, 1, 1, 2, 97, 98, 1, 9, 2, 3, 4})
	for i, want := range []any{uint64(300), -1, true, "ab", []byte{9}, []int{-2, 2}} {
		if end := r.End(); end != api.ErrForm {
			t.Errorf("End before value %d = %d, want ErrForm", i, end)
		}
		if got := kindOf(want).read(r); !equal(got, want) {
			t.Errorf("value %d is %v, want %v", i, got, want)
		}
	}
	if end := r.End(); end != api.OK {
		t.Errorf("End = %d, want OK", end)
	}
	if r.Bool() || r.End() != api.ErrMore {
		t.Errorf("after a value too many, the error is %d, want ErrMore", r.End())
	}
}

// P2.2.
func TestTheFirstErrorStays(t *testing.T) {
	for _, c := range []struct {
		b    []byte
		k    kind
		want api.Errno
	}{
		{[]byte{2, 1, 1, 1}, kindBool, api.ErrForm},
		{[]byte{128, 0, 1, 1}, kindUint, api.ErrForm},
		{[]byte{128, 0, 1, 1}, kindInt, api.ErrForm},
		{[]byte{9, 1, 1, 1}, kindText, api.ErrMore},
		{[]byte{9, 1, 1, 1}, kindRaw, api.ErrMore},
		{[]byte{9, 1, 1, 1}, kindInts, api.ErrMore},
		{[]byte{2, 128, 0, 1}, kindInts, api.ErrForm},
		{[]byte{2, 1, 128}, kindInts, api.ErrMore},
		{[]byte{128, 128}, kindUint, api.ErrMore},
	} {
		r := Read(c.b)
		if v := c.k.read(r); !isZero(v) {
			t.Errorf("%v of %v = %v, want its zero value", c.k, c.b, v)
		}
		for range 3 {
			for k := range kinds {
				if v := k.read(r); !isZero(v) {
					t.Errorf("%v after an error = %v", k, v)
				}
				if end := r.End(); end != c.want {
					t.Errorf("%v of %v, then %v: error %d, want %d", c.k, c.b, k, end, c.want)
				}
			}
		}
	}
}

// P2.3 and P2.4: what Uint, Int and the lengths of Text, Raw and Ints do with bytes that are not a varint.
func TestWrongVarints(t *testing.T) {
	for _, c := range []struct {
		b    []byte
		want api.Errno
	}{
		{nil, api.ErrMore},
		{[]byte{128}, api.ErrMore},
		{[]byte{255, 255}, api.ErrMore},
		{repeated(128, 9), api.ErrMore},
		{repeated(255, 9), api.ErrMore},
		{[]byte{128, 0}, api.ErrForm},
		{[]byte{255, 0}, api.ErrForm},
		{[]byte{128, 0, 1}, api.ErrForm},
		{[]byte{129, 128, 0}, api.ErrForm},
		{repeated(128, 8, 0), api.ErrForm},
		{repeated(128, 9, 0), api.ErrForm},
		{repeated(128, 9, 2), api.ErrForm},
		{repeated(255, 9, 2), api.ErrForm},
		{repeated(255, 9, 127), api.ErrForm},
		{repeated(255, 9, 128), api.ErrForm},
		{repeated(255, 9, 129), api.ErrForm},
		{repeated(128, 10, 1), api.ErrForm},
		{repeated(255, 20), api.ErrForm},
	} {
		for k := range kinds {
			if k == kindBool {
				continue
			}
			r := Read(c.b)
			if v := k.read(r); !isZero(v) || r.End() != c.want {
				t.Errorf("%v of %v = %v, with the error %d, want %d", k, c.b, v, r.End(), c.want)
			}
		}
	}
}

// P2.3 and P2.4.
func TestVarintsUpToTheGreatest(t *testing.T) {
	for _, n := range someNumbers {
		b := append(encoded(n), 77)
		r := Read(b)
		if got := r.Uint(); got != n || r.Uint() != 77 || r.End() != api.OK {
			t.Errorf("Uint of %v = %d, with the error %d, want %d", b, got, r.End(), n)
		}
		signed := int(n >> 1)
		if n%2 == 1 {
			signed = -signed - 1
		}
		r = Read(b)
		if got := r.Int(); got != signed || r.Uint() != 77 || r.End() != api.OK {
			t.Errorf("Int of %v = %d, with the error %d, want %d", b, got, r.End(), signed)
		}
	}
}

// uintOf does what P2.3 says, in the words of the chapter: the examined bytes are a varint if they encode their number.
func uintOf(b []byte) (uint64, int, api.Errno) {
	for i, c := range b {
		if i == 9 && c > 1 || i > 0 && c == 0 {
			return 0, 0, api.ErrForm
		}
		if c < 128 {
			n, size := binary.Uvarint(b)
			return n, size, api.OK
		}
	}
	return 0, 0, api.ErrMore
}

// P2.3.
func TestUintOfAllShortSequences(t *testing.T) {
	check := func(b []byte) {
		n, size, want := uintOf(b)
		r := Read(b)
		if got := r.Uint(); got != n {
			t.Fatalf("Uint of %v = %d, want %d", b, got, n)
		}
		if want == api.OK && size < len(b) {
			want = api.ErrForm // for the bytes that are left
		}
		if end := r.End(); end != want {
			t.Fatalf("End after Uint of %v = %d, want %d", b, end, want)
		}
		if size > 0 && !slices.Equal(encoded(n), b[:size]) {
			t.Fatalf("%v is read as %d, which it does not encode", b, n)
		}
	}
	for first := range 256 {
		check([]byte{byte(first)})
		for second := range 256 {
			check([]byte{byte(first), byte(second)})
			check(repeated(byte(first), 8, byte(second)))
			check(repeated(byte(first), 9, byte(second)))
			check(repeated(byte(first), 10, byte(second)))
			for _, third := range []byte{0, 1, 127, 128, 255} {
				check([]byte{byte(first), byte(second), third})
			}
		}
	}
}

// P2.4.
func TestBoolOfEveryByte(t *testing.T) {
	for c := range 256 {
		r := Read([]byte{byte(c)})
		want := api.OK
		if c > 1 {
			want = api.ErrForm
		}
		if got := r.Bool(); got != (c == 1) || r.End() != want {
			t.Errorf("Bool of %d = %t, with the error %d, want %d", c, got, r.End(), want)
		}
	}
}

// P2.5.
func TestLengthsBeyondTheBytesThatAreLeft(t *testing.T) {
	for _, k := range []kind{kindText, kindRaw, kindInts} {
		for _, length := range append(someNumbers, 3, 4, 5) {
			for left := range 5 {
				b := append(encoded(length), repeated(2, left)...)
				r := Read(b)
				v := k.read(r)
				if length > uint64(left) {
					if !isZero(v) || r.End() != api.ErrMore {
						t.Errorf("%v of the length %d with %d bytes left = %v, with the error %d, want ErrMore", k, length, left, v, r.End())
					}
				} else if reflect.ValueOf(v).Len() != int(length) || length < uint64(left) && r.Uint() != 2 {
					t.Errorf("%v of the length %d with %d bytes left = %v", k, length, left, v)
				}
			}
		}
	}
}

// P2.5.
func TestListsWithWrongElements(t *testing.T) {
	for _, c := range []struct {
		b    []byte
		want api.Errno
	}{
		{[]byte{1, 128}, api.ErrMore},
		{[]byte{2, 5, 128}, api.ErrMore},
		{[]byte{2, 172, 2}, api.ErrMore},
		{[]byte{3, 172, 2, 1}, api.ErrMore},
		{[]byte{2, 5, 128, 0}, api.ErrForm},
		{[]byte{2, 128, 0, 5}, api.ErrForm},
		{append([]byte{2}, repeated(255, 9, 2, 5)...), api.ErrForm},
		{[]byte{3, 128, 0}, api.ErrMore}, // the length comes first
		{[]byte{200, 1, 128, 0}, api.ErrMore},
	} {
		r := Read(c.b)
		if l := r.Ints(); len(l) != 0 || r.End() != c.want {
			t.Errorf("Ints of %v = %v, with the error %d, want none and %d", c.b, l, r.End(), c.want)
		}
	}
}

// P2.5, with rule R3.
func TestResultsOfReaderAreNew(t *testing.T) {
	b := []byte{2, 5, 6, 2, 7, 8, 1, 9, 2, 10, 12, 3, 1, 1, 1}
	r := Read(b)
	first := r.Raw()
	first[0], first[1] = 100, 101
	first = append(first, 102, 103, 104, 105, 106, 107, 108)
	second := r.Raw()
	text := r.Text()
	ints := r.Ints()
	ints[0] = 100
	ints = append(ints, 1, 2, 3)
	if !slices.Equal(second, []byte{7, 8}) || text != "\x09" || !slices.Equal(r.Ints(), []int{-1, -1, -1}) || r.End() != api.OK {
		t.Error("a changed result changes what is read later")
	}
	if !slices.Equal(first, []byte{100, 101, 102, 103, 104, 105, 106, 107, 108}) || !slices.Equal(ints, []int{100, 6, 1, 2, 3}) {
		t.Error("a result is changed by what is read later")
	}
	if !slices.Equal(b, []byte{2, 5, 6, 2, 7, 8, 1, 9, 2, 10, 12, 3, 1, 1, 1}) {
		t.Errorf("the argument became %v", b)
	}
}

// randomValues are up to six values of all kinds and sizes, always the same for a source of the same seed.
func randomValues(source *rand.Rand) []any {
	values := make([]any, source.Intn(6)+1)
	for i := range values {
		n := source.Uint64() >> source.Intn(64)
		b := make([]byte, source.Intn(4)*source.Intn(60))
		source.Read(b)
		l := make([]int, source.Intn(5)*source.Intn(40))
		for j := range l {
			l[j] = int(source.Uint64()) >> source.Intn(64)
		}
		values[i] = []any{int(n), -int(n), n, n%2 == 1, string(b), b, l}[source.Intn(7)]
	}
	return values
}

func checkRoundTrip(t *testing.T, values []any) {
	r := Read(written(values...))
	for i, want := range values {
		if got := kindOf(want).read(r); !equal(got, want) {
			t.Errorf("value %d, a %v, is read as %v, want %v", i, kindOf(want), got, want)
		}
	}
	if end := r.End(); end != api.OK {
		t.Errorf("End after the values %v = %d, want OK", values, end)
	}
}

// P2.6.
func TestRoundTrip(t *testing.T) {
	values := someValues()
	for _, v := range values {
		checkRoundTrip(t, []any{v})
	}
	checkRoundTrip(t, values)
	checkRoundTrip(t, nil)
	source := rand.New(rand.NewSource(1))
	for range 3000 {
		checkRoundTrip(t, randomValues(source))
	}
}

// checkOneEncoding reads b by the methods and tells whether it was read to its end.
func checkOneEncoding(t *testing.T, b []byte, methods []kind) bool {
	r := Read(b)
	values := make([]any, len(methods))
	for i, k := range methods {
		values[i] = k.read(r)
	}
	if r.End() != api.OK {
		return false
	}
	if got := written(values...); !slices.Equal(got, b) {
		t.Errorf("%v is read by %v as %v, which is written as %v", b, methods, values, got)
	}
	return true
}

// sequences calls check with all sequences of at most four of the digits.
func sequences(digits []byte, check func(b []byte)) {
	count := 1
	for size := range 5 {
		for code := range count {
			b := make([]byte, size)
			for i := range b {
				b[i] = digits[code%len(digits)]
				code /= len(digits)
			}
			check(b)
		}
		count *= len(digits)
	}
}

// P2.7.
func TestOneEncoding(t *testing.T) {
	read := map[kind]int{}
	sequences([]byte{0, 1, 2, 3, 127, 128, 129, 255}, func(b []byte) {
		for first := range kinds {
			checkOneEncoding(t, b, []kind{first})
			for second := range kinds {
				if checkOneEncoding(t, b, []kind{first, second}) {
					read[first]++
				}
			}
		}
	})
	for k := range kinds {
		if read[k] == 0 {
			t.Errorf("no sequence was read that begins with %v", k)
		}
	}
}

// P2.7: one byte of an encoding is changed, so that it may still be one.
func TestOneEncodingOfChangedBytes(t *testing.T) {
	source := rand.New(rand.NewSource(2))
	read := 0
	for range 20000 {
		values := randomValues(source)
		methods := []kind{}
		for _, v := range values {
			methods = append(methods, kindOf(v))
		}
		b := written(values...)
		b[source.Intn(len(b))] ^= 1 << source.Intn(8)
		if checkOneEncoding(t, b, methods) {
			read++
		}
	}
	if read == 0 {
		t.Error("no changed encoding was read")
	}
}

// P2.8.
func TestProperPrefixes(t *testing.T) {
	check := func(values []any) {
		b := written(values...)
		for size := range b {
			r := Read(b[:size])
			for _, v := range values {
				kindOf(v).read(r)
			}
			if end := r.End(); end != api.ErrMore {
				t.Fatalf("%d bytes of %v end with the error %d, want ErrMore", size, b, end)
			}
		}
	}
	for _, v := range someValues() {
		if b := written(v); len(b) < 1000 {
			check([]any{v})
			check([]any{true, v, -1})
		}
	}
	source := rand.New(rand.NewSource(3))
	for range 300 {
		check(randomValues(source))
	}
}

// P2.8.
func TestSizesOfVarints(t *testing.T) {
	for shift := range 64 {
		for _, n := range []uint64{1<<shift - 1, 1 << shift, 1<<shift + 1, math.MaxUint64 >> shift} {
			want := max(1, (bits.Len64(n)+6)/7)
			if got := len(written(n)); got != want {
				t.Errorf("the varint of %d has %d bytes, want %d", n, got, want)
			}
		}
	}
}
