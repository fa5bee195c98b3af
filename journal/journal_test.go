package journal

import (
	"bytes"
	"encoding/binary"
	"math"
	"slices"
	"testing"

	"skymosaic/api"
	"skymosaic/disk"
	"skymosaic/hash"
)

// noFiles are numbers that no file has.
var noFiles = []int{-1, 64, math.MinInt, math.MaxInt, 1 << 32}

// made is a new disk.
func made(t *testing.T, room int) *disk.Disk {
	t.Helper()
	d, e := disk.New(room)
	want(t, "disk.New", e, api.OK)
	return d
}

// want checks the error of a call.
func want(t *testing.T, call string, got, e api.Errno) {
	t.Helper()
	if got != e {
		t.Fatalf("%s returns %d, want %d", call, got, e)
	}
}

// content is the bytes of a file.
func content(t *testing.T, d *disk.Disk, file int) []byte {
	t.Helper()
	b, e := d.Read(file)
	want(t, "disk.Read", e, api.OK)
	return b
}

// has checks the bytes of a file.
func has(t *testing.T, d *disk.Disk, file int, parts ...[]byte) {
	t.Helper()
	if got := content(t, d, file); !bytes.Equal(got, bytes.Join(parts, nil)) {
		t.Fatalf("file %d contains %v, want %v", file, got, bytes.Join(parts, nil))
	}
}

// write writes durable bytes to a file.
func write(t *testing.T, d *disk.Disk, file int, parts ...[]byte) {
	t.Helper()
	want(t, "disk.Append", d.Append(file, bytes.Join(parts, nil)), api.OK)
	want(t, "disk.Sync", d.Sync(), api.OK)
}

// opened is the log in a file, which has to have these records.
func opened(t *testing.T, d *disk.Disk, file int, records ...[]byte) *Log {
	t.Helper()
	l, got, e := Open(d, file)
	want(t, "Open", e, api.OK)
	if !slices.EqualFunc(got, records, bytes.Equal) {
		t.Fatalf("Open returns the records %v, want %v", got, records)
	}
	state(t, l, len(records), true)
	return l
}

// notOpened checks that a log cannot be opened.
func notOpened(t *testing.T, d *disk.Disk, file int, e api.Errno) {
	t.Helper()
	l, records, got := Open(d, file)
	want(t, "Open", got, e)
	if l != nil || len(records) > 0 {
		t.Fatalf("Open returns a log or the records %v with the error %d", records, e)
	}
}

// state checks Len and Up of a log.
func state(t *testing.T, l *Log, n int, up bool) {
	t.Helper()
	if l.Len() != n || l.Up() != up {
		t.Fatalf("Len and Up are %d and %t, want %d and %t", l.Len(), l.Up(), n, up)
	}
}

// add appends records, which has to succeed.
func add(t *testing.T, l *Log, records ...[]byte) {
	t.Helper()
	for _, b := range records {
		want(t, "Append", l.Append(b), api.OK)
	}
}

// scans checks what Scan returns.
func scans(t *testing.T, b []byte, size int, records ...[]byte) {
	t.Helper()
	got, n := Scan(b)
	if n != size || !slices.EqualFunc(got, records, bytes.Equal) {
		t.Fatalf("Scan(%v) = %v, %d, want %v, %d", b, got, n, records, size)
	}
}

// frames are the frames of the records 0, 1, 2, ..
func frames(records ...[]byte) []byte {
	var b []byte
	for number, record := range records {
		b = append(b, frameOf(coreOf(number, record))...)
	}
	return b
}

func TestExamplesOfTheChapter(t *testing.T) {
	frame := Frame(0, []byte{7})
	if !bytes.Equal(frame[:4], []byte{3, 0, 1, 7}) || !bytes.Equal(frame, frameOf([]byte{0, 1, 7})) {
		t.Errorf("Frame(0, [7]) = %v", frame)
	}
	scans(t, append(slices.Clone(frame), 3, 0, 1), len(frame), []byte{7})
}

// P6.1: frames that a separate program outside Go computed.
func TestFrame(t *testing.T) {
	for _, c := range []struct {
		number int
		record string
		want   []byte
	}{
		{0, "\a", []byte{3, 0, 1, 7, 201, 234, 140, 218, 237, 132, 160, 225, 77}},
		{0, "", []byte{2, 0, 0, 152, 217, 176, 146, 197, 162, 254, 200, 138, 1}},
		{1, "ab", []byte{4, 2, 2, 97, 98, 128, 204, 220, 132, 137, 150, 241, 197, 185, 1}},
		{-1, "\xff", []byte{3, 1, 1, 255, 227, 201, 183, 201, 143, 218, 155, 163, 178, 1}},
		{64, "", []byte{3, 128, 1, 0, 185, 150, 172, 154, 193, 228, 216, 248, 126}},
		{math.MaxInt, "x", []byte{12, 254, 255, 255, 255, 255, 255, 255, 255, 255, 1, 1, 120, 220, 210, 233, 171, 130, 173, 157, 198, 130, 1}},
		{math.MinInt, "x", []byte{12, 255, 255, 255, 255, 255, 255, 255, 255, 255, 1, 1, 120, 198, 201, 160, 233, 249, 202, 221, 188, 151, 1}},
	} {
		if got := Frame(c.number, []byte(c.record)); !bytes.Equal(got, c.want) {
			t.Errorf("Frame(%d, %q) = %v, want %v", c.number, c.record, got, c.want)
		}
	}
	if !bytes.Equal(Frame(0, nil), Frame(0, []byte{})) {
		t.Errorf("the frames of nil and of an empty slice differ")
	}
}

// P6.1: a frame has any number of bytes, also more than a log takes.
func TestFramesOfAllSizes(t *testing.T) {
	for _, size := range []int{1, 2, 123, 124, 125, 126, 127, 128, 129, 16383, 16384, api.MaxBlock, api.MaxBlock + 1, 1 << 21} {
		b := bytes.Repeat([]byte{5, 200, 17}, size/3+1)[:size]
		for _, number := range []int{0, 1, 63, 64, -64, -65, 1 << 40} {
			if !bytes.Equal(Frame(number, b), frameOf(coreOf(number, b))) {
				t.Errorf("the frame of record %d with %d bytes is wrong", number, size)
			}
		}
		got, n := Scan(Frame(0, b))
		if len(got) != 1 || !bytes.Equal(got[0], b) || n != len(Frame(0, b)) {
			t.Errorf("Scan does not return the record of its frame with %d bytes", size)
		}
	}
}

// P6.1.
func TestScan(t *testing.T) {
	scans(t, nil, 0)
	scans(t, []byte{}, 0)
	var records [][]byte
	for n := range 200 {
		scans(t, frames(records...), len(frames(records...)), records...)
		records = append(records, bytes.Repeat([]byte{byte(n)}, n%7*n%50))
	}
	first, second, third := Frame(0, []byte("a")), Frame(1, nil), Frame(2, []byte("bc"))
	all := slices.Concat(first, second, third)
	for size := range all {
		switch {
		case size < len(first):
			scans(t, all[:size], 0)
		case size < len(first)+len(second):
			scans(t, all[:size], len(first), []byte("a"))
		default:
			scans(t, all[:size], len(first)+len(second), []byte("a"), nil)
		}
	}
}

// P6.1: what is no frame of the next record, followed by frames that therefore do not count.
func TestScanEndsAtTheFirstOtherBytes(t *testing.T) {
	core := coreOf(1, []byte("b"))
	good := frameOf(core)
	for name, bad := range map[string][]byte{
		"the number 0 again":            frameOf(coreOf(0, []byte("b"))),
		"the number 2":                  frameOf(coreOf(2, []byte("b"))),
		"the number -1":                 frameOf(coreOf(-1, []byte("b"))),
		"no core":                       frameOf(nil),
		"a core without bytes":          frameOf([]byte{2}),
		"a core with too few bytes":     frameOf([]byte{2, 2, 'b'}),
		"a core with a byte more":       frameOf(append(slices.Clone(core), 0)),
		"a core with a longer number":   frameOf([]byte{130, 0, 1, 'b'}),
		"a core with a longer length":   frameOf([]byte{2, 129, 0, 'b'}),
		"a core with half a number":     frameOf([]byte{130}),
		"a core with half a length":     frameOf([]byte{2, 129}),
		"a longer length":               append([]byte{good[0] | 128, 0}, good[1:]...),
		"a length beyond the end":       {100, 2, 1, 'b'},
		"a length that is out of range": {255, 255, 255, 255, 255, 255, 255, 255, 255, 1},
		"a length that is no number":    {255, 255, 255, 255, 255, 255, 255, 255, 255, 2},
		"a wrong hash":                  append(slices.Clone(good[:1+len(core)]), 1),
		"the hash of another label":     binary.AppendUvarint(raw(core), hash.Bytes("block", core)),
		"the hash of the record":        binary.AppendUvarint(raw(core), hash.Bytes("frame", []byte("b"))),
		"no hash":                       good[:1+len(core)],
		"half a hash":                   good[:len(good)-1],
		"a longer hash":                 append(append(slices.Clone(good[:len(good)-1]), good[len(good)-1]|128), 0),
		"bytes 0":                       make([]byte, 20),
		"a byte before the frame":       append([]byte{0}, good...),
	} {
		t.Run(name, func(t *testing.T) {
			first := Frame(0, []byte("a"))
			scans(t, slices.Concat(first, bad), len(first), []byte("a"))
			scans(t, slices.Concat(first, bad, Frame(2, []byte("c"))), len(first), []byte("a"))
			scans(t, slices.Concat(first, bad, good), len(first), []byte("a"))
		})
	}
	for _, number := range []int{1, -1, 5} {
		scans(t, Frame(number, []byte("a")), 0)
	}
	scans(t, append([]byte{3}, Frame(0, []byte("a"))...), 0)
}

// whoseHashIsZero returns 14 bytes with which the core of record 0 has the hash 0. As 0 is also what a reader returns that
// could not read a number, only such a core shows whether the two are told apart.
func whoseHashIsZero() []byte {
	const multiplier = 0x9E3779B97F4A7C15
	inverse := uint64(1)
	for range 6 {
		inverse *= 2 - multiplier*inverse
	}
	mix := func(state, word uint64) uint64 {
		m := (state ^ word) * multiplier
		return m ^ m>>32
	}
	// The core has the number 0, the length 14, and the record: the second of its two words can be chosen freely.
	state := uint64(0)
	for _, word := range []uint64{0x656d617266 /* frame */, 5, 3, 14 << 8} {
		state = mix(state, word)
	}
	m := uint64(16) ^ 16>>32 // the length of the core, with which the last two steps lead to 0
	word := state ^ m*inverse
	record := make([]byte, 14)
	for i := range 8 {
		record[6+i] = byte(word >> (8 * i))
	}
	return record
}

// P6.1 and P6.6.
func TestScanOfAHashThatIsZero(t *testing.T) {
	record := whoseHashIsZero()
	frame := Frame(0, record)
	if len(frame) != 18 || frame[17] != 0 {
		t.Fatalf("the hash of the core is not 0: %v", frame)
	}
	scans(t, frame, 18, record)
	scans(t, slices.Concat(frame, Frame(1, nil)), 18+len(Frame(1, nil)), record, nil)
	for _, tail := range [][]byte{nil, {128}, {128, 0}, {1}, {255}, bytes.Repeat([]byte{255}, 10)} {
		scans(t, append(slices.Clone(frame[:17]), tail...), 0)
	}
}

// P6.6, with each length of a frame up to 150 bytes, as the only one, between others, and as the last one.
func TestInvertedBits(t *testing.T) {
	for size := range 150 {
		record := bytes.Repeat([]byte{byte(size), 0, 255}, 50)[:size]
		frame := Frame(1, record)
		start := 1
		if frame[0] >= 128 {
			start = 2
		}
		first := Frame(0, []byte("a"))
		for bit := start * 8; bit < len(frame)*8; bit++ {
			bad := slices.Clone(frame)
			bad[bit/8] ^= 1 << (bit % 8)
			scans(t, append(slices.Clone(first), bad...), len(first), []byte("a"))
			scans(t, slices.Concat(first, bad, Frame(2, []byte("c")), []byte{1, 2, 3, 4, 5, 6, 7, 8, 9, 10, 11}), len(first), []byte("a"))
		}
	}
}

// R3.
func TestScanSharesNoMemory(t *testing.T) {
	b := frames([]byte("abc"), nil, []byte("def"))
	before := slices.Clone(b)
	first, _ := Scan(b)
	if !bytes.Equal(b, before) {
		t.Fatal("Scan changes its argument")
	}
	clear(b)
	second, _ := Scan(before)
	clear(second[0])
	for _, r := range second {
		_ = append(r, 9, 9, 9)
	}
	clear(before)
	if string(first[0]) != "abc" || string(first[2]) != "def" || string(second[2]) != "def" {
		t.Fatalf("records were changed: %q, %q", first, second)
	}
	record := append(make([]byte, 0, 10), 1, 2)
	frame := Frame(0, record)
	clear(frame)
	if !bytes.Equal(record[:5], []byte{1, 2, 0, 0, 0}) {
		t.Fatalf("Frame changes its argument to %v", record[:5])
	}
}

// P6.2: the errors of Open, in their order.
func TestErrorsOfOpen(t *testing.T) {
	for _, file := range append([]int{0, 63}, noFiles...) {
		notOpened(t, nil, file, api.ErrArg)
	}
	d := made(t, 1000)
	write(t, d, 5, Frame(0, []byte("a")), []byte{1, 2})
	for _, on := range []bool{true, false} {
		if !on {
			d.Arm(0)
			want(t, "disk.Sync", d.Sync(), api.ErrDown)
			for _, file := range []int{0, 5, 63} {
				notOpened(t, d, file, api.ErrDown)
			}
		}
		for _, file := range noFiles {
			notOpened(t, d, file, api.ErrArg)
		}
	}
	d.Crash(nil, -1)
	has(t, d, 5, Frame(0, []byte("a")), []byte{1, 2})
	opened(t, d, 5, []byte("a"))
}

// P6.2: Open truncates only a file with other bytes after the records, and syncs in any case.
func TestStepsOfOpen(t *testing.T) {
	for _, c := range []struct {
		records [][]byte
		tail    []byte
		steps   int
	}{
		{nil, nil, 1},
		{nil, []byte{0}, 2},
		{[][]byte{[]byte("a")}, nil, 1},
		{[][]byte{[]byte("a")}, []byte{3, 0, 1}, 2},
		{[][]byte{[]byte("a"), nil}, Frame(0, nil), 2},
	} {
		for n := range c.steps + 2 {
			d := made(t, 1000)
			write(t, d, 7, frames(c.records...), c.tail)
			want(t, "disk.Append", d.Append(8, []byte{1, 2, 3}), api.OK)
			d.Arm(n)
			if n >= c.steps {
				opened(t, d, 7, c.records...)
				for range n - c.steps {
					want(t, "disk.Sync", d.Sync(), api.OK)
				}
				want(t, "disk.Sync", d.Sync(), api.ErrDown)
			} else {
				notOpened(t, d, 7, api.ErrDown)
			}
			d.Crash(nil, -1)
			if n < c.steps {
				has(t, d, 8)
			} else {
				has(t, d, 8, []byte{1, 2, 3})
			}
			if n == 0 && c.steps == 2 {
				has(t, d, 7, frames(c.records...), c.tail)
			} else {
				has(t, d, 7, frames(c.records...))
			}
			opened(t, d, 7, c.records...)
		}
	}
}

// P6.2: records that a crash would lose are durable after an Open, and what follows them is gone.
func TestOpenKeepsRecords(t *testing.T) {
	a, b := []byte("a"), []byte("bcd")
	d := made(t, 1000)
	write(t, d, 3, Frame(0, a))
	want(t, "disk.Append", d.Append(3, slices.Concat(Frame(1, b), []byte("rest"), Frame(2, a))), api.OK)
	l := opened(t, d, 3, a, b)
	d.Crash(nil, -1)
	has(t, d, 3, frames(a, b))
	add(t, l, nil)
	has(t, d, 3, frames(a, b, nil))
	opened(t, d, 3, a, b, nil)
}

// P6.2 and R3.
func TestOpenSharesNoMemory(t *testing.T) {
	d := made(t, 1000)
	write(t, d, 0, frames([]byte("abc"), []byte("de")))
	_, records, _ := Open(d, 0)
	for _, r := range records {
		clear(append(r, 1, 2, 3)[:len(r)])
	}
	clear(records)
	has(t, d, 0, frames([]byte("abc"), []byte("de")))
	opened(t, d, 0, []byte("abc"), []byte("de"))
}

// P6.3 and P6.4.
func TestAppend(t *testing.T) {
	for _, file := range []int{0, 1, 62, 63} {
		d := made(t, 1<<20)
		l := opened(t, d, file)
		var records [][]byte
		for n := range 150 {
			record := bytes.Repeat([]byte{byte(n)}, n*n%200)
			other := slices.Clone(record)
			add(t, l, other)
			clear(other)
			records = append(records, record)
			state(t, l, n+1, true)
			has(t, d, file, frames(records...))
			d.Crash(nil, -1)
			has(t, d, file, frames(records...))
		}
		l = opened(t, d, file, records...)
		add(t, l, []byte("x"), nil, []byte{})
		opened(t, d, file, append(records, []byte("x"), nil, nil)...)
		if !slices.Equal(d.Files(), []int{file}) {
			t.Fatalf("the files %v are written to", d.Files())
		}
	}
}

// P6.3 and R3: an argument with more capacity than bytes is not changed.
func TestAppendLeavesItsArgument(t *testing.T) {
	d := made(t, 1000)
	l := opened(t, d, 0)
	b := append(make([]byte, 0, 50), 1, 2, 3)
	add(t, l, b)
	if !bytes.Equal(b[:50], append([]byte{1, 2, 3}, make([]byte, 47)...)) {
		t.Fatalf("the argument was changed to %v", b[:50])
	}
	clear(b)
	opened(t, d, 0, []byte{1, 2, 3})
}

// P6.3: ErrLimit comes first and has no effect.
func TestLimitOfAppend(t *testing.T) {
	d := made(t, 1<<20)
	l := opened(t, d, 0)
	add(t, l, []byte("a"))
	long := make([]byte, api.MaxBlock+1)
	d.Arm(0)
	want(t, "Append of too many bytes", l.Append(long), api.ErrLimit)
	want(t, "Append of far too many bytes", l.Append(make([]byte, 1<<22)), api.ErrLimit)
	state(t, l, 1, true)
	if !d.On() {
		t.Fatal("a record that is too long leads to a step")
	}
	has(t, d, 0, frames([]byte("a")))
	d.Arm(-1)
	add(t, l, long[1:])
	state(t, l, 2, true)
	opened(t, d, 0, []byte("a"), long[1:])

	d.Arm(0)
	want(t, "Append during which the power fails", l.Append(nil), api.ErrDown)
	want(t, "Append of too many bytes to a log that is not up", l.Append(long), api.ErrLimit)
	state(t, l, 2, false)

	d = made(t, 10)
	l = opened(t, d, 0)
	want(t, "Append of too many bytes to a full disk", l.Append(long), api.ErrLimit)
	state(t, l, 0, true)
}

// P6.3: the power fails during the Append or the Sync of the disk, or has failed before.
func TestPowerFailure(t *testing.T) {
	a, b := []byte("a"), []byte("bc")
	for n := range 3 {
		d := made(t, 1000)
		l := opened(t, d, 9)
		add(t, l, a)
		if n < 2 {
			d.Arm(n)
		} else {
			d.Arm(0)
			want(t, "disk.Sync", d.Sync(), api.ErrDown)
		}
		state(t, l, 1, true)
		used := d.Used()
		want(t, "Append during which the power fails", l.Append(b), api.ErrDown)
		state(t, l, 1, false)
		if got := d.Used() - used; n < 2 && got != len(Frame(1, b)) || n == 2 && got != 0 {
			t.Fatalf("%d bytes were written before the power failed at step %d", got, n)
		}
		used = d.Used()
		want(t, "Append after it", l.Append(b), api.ErrDown)
		d.Crash([]int{1 << 20}, -1)
		for range 3 {
			want(t, "Append after a restart", l.Append(nil), api.ErrDown)
			state(t, l, 1, false)
		}
		if d.Used() != used {
			t.Fatal("a log that is not up writes to the disk")
		}
		records := [][]byte{a, b}
		if n == 2 {
			records = records[:1]
		}
		l = opened(t, d, 9, records...)
		add(t, l, []byte("d"))
		opened(t, d, 9, append(records, []byte("d"))...)
	}
}

// P6.3: Append has two steps, and ErrDown without power also where the disk is full.
func TestStepsOfAppend(t *testing.T) {
	for n := range 8 {
		d := made(t, 1000)
		l := opened(t, d, 0)
		d.Arm(n)
		for range n / 2 {
			add(t, l, []byte("a"))
		}
		want(t, "Append during which the power fails", l.Append([]byte("b")), api.ErrDown)
		state(t, l, n/2, false)
	}
	d := made(t, 5)
	l := opened(t, d, 0)
	d.Arm(0)
	want(t, "Append to a full disk", l.Append([]byte("a")), api.ErrFull)
	want(t, "disk.Sync", d.Sync(), api.ErrDown)
	want(t, "Append to a full disk without power", l.Append([]byte("a")), api.ErrDown)
	state(t, l, 0, false)
}

// P6.3 and P6.7: ErrFull changes nothing.
func TestFullDisk(t *testing.T) {
	a, b := []byte("a"), bytes.Repeat([]byte{3}, 20)
	for missing := range 30 {
		room := len(frames(a, b)) - missing
		d := made(t, room)
		l := opened(t, d, 2)
		e := l.Append(a)
		if room < len(frames(a)) {
			want(t, "Append of the first record", e, api.ErrFull)
			state(t, l, 0, true)
			has(t, d, 2)
			opened(t, d, 2)
			continue
		}
		want(t, "Append of the first record", e, api.OK)
		if missing == 0 {
			add(t, l, b)
			opened(t, d, 2, a, b)
			continue
		}
		for range 2 {
			want(t, "Append to a full disk", l.Append(b), api.ErrFull)
			state(t, l, 1, true)
			has(t, d, 2, frames(a))
		}
		short := b
		for len(short) > 0 && len(frames(a, short)) > room {
			short = short[1:]
		}
		if len(frames(a, short)) <= room {
			add(t, l, short)
			opened(t, d, 2, a, short)
		}
	}
}

// P6.5: a crash after each step, with each number of surviving bytes, and with each of their bits inverted.
func TestCrashes(t *testing.T) {
	records := [][]byte{[]byte("a"), nil, []byte("bcdefghijk"), bytes.Repeat([]byte{9}, 130)}
	for n := range 2 * len(records) {
		d := made(t, 1000)
		l := opened(t, d, 4)
		d.Arm(n)
		done := 0
		for l.Append(records[done]) == api.OK {
			done++
		}
		state(t, l, done, false)
		if done != n/2 {
			t.Fatalf("%d records were appended in %d steps", done, n)
		}
		frame := Frame(done, records[done])
		for keep := range len(frame) + 1 {
			other := d.Copy()
			other.Crash([]int{keep}, -1)
			expected := records[:done]
			if keep == len(frame) {
				expected = records[:done+1]
			}
			goesOn(t, other, 4, expected)
			for bit := range 8 * keep {
				other := d.Copy()
				other.Crash([]int{keep}, bit)
				goesOn(t, other, 4, records[:done])
			}
		}
	}
}

// goesOn checks that a log can be opened with these records, and that more can be appended.
func goesOn(t *testing.T, d *disk.Disk, file int, records [][]byte) {
	t.Helper()
	l := opened(t, d, file, records...)
	add(t, l, []byte("more"))
	d.Crash(nil, -1)
	opened(t, d, file, append(slices.Clone(records), []byte("more"))...)
}

// P6.5: the power fails during the steps of an Open, too.
func TestCrashesDuringOpen(t *testing.T) {
	a, b := []byte("a"), []byte("b")
	for _, keep := range []int{0, 1, 5, len(Frame(1, b)) - 1, len(Frame(1, b))} {
		for n := range 2 {
			d := made(t, 1000)
			l := opened(t, d, 0)
			add(t, l, a)
			d.Arm(1)
			want(t, "Append during which the power fails", l.Append(b), api.ErrDown)
			d.Crash([]int{keep}, -1)
			records := [][]byte{a}
			if keep == len(Frame(1, b)) {
				records = append(records, b)
			}
			d.Arm(n)
			if n == 1 && (keep == 0 || len(records) == 2) {
				opened(t, d, 0, records...)
			} else {
				notOpened(t, d, 0, api.ErrDown)
			}
			d.Crash([]int{keep}, 3)
			goesOn(t, d, 0, records)
		}
	}
}

// P6.7.
func TestLogsOfOneDisk(t *testing.T) {
	d := made(t, 1<<20)
	var logs [64]*Log
	var records [64][][]byte
	for file := range logs {
		logs[file] = opened(t, d, file)
	}
	for n := range 300 {
		file := n * n % 64
		record := bytes.Repeat([]byte{byte(n)}, n%9)
		add(t, logs[file], record)
		records[file] = append(records[file], record)
	}
	d.Arm(0)
	want(t, "Append during which the power fails", logs[7].Append(nil), api.ErrDown)
	for file, l := range logs {
		state(t, l, len(records[file]), file != 7)
	}
	d.Crash(nil, -1)
	for file, l := range logs {
		e := api.OK
		if file == 7 {
			e = api.ErrDown
		}
		want(t, "Append after a restart", l.Append([]byte("z")), e)
		if file != 7 {
			records[file] = append(records[file], []byte("z"))
		}
	}
	for range 2 {
		for file := range logs {
			opened(t, d, file, records[file]...)
			has(t, d, file, frames(records[file]...))
		}
	}
}

// P6.7: what is wrong in one file does not matter in another one.
func TestDamageOfAnotherFile(t *testing.T) {
	d := made(t, 1000)
	l, other := opened(t, d, 10), opened(t, d, 11)
	add(t, l, []byte("a"), []byte("b"))
	add(t, other, []byte("c"), []byte("d"))
	want(t, "disk.Rot", d.Rot(10, 8*len(Frame(0, []byte("a")))+10), api.OK)
	opened(t, d, 11, []byte("c"), []byte("d"))
	opened(t, d, 10, []byte("a"))
	add(t, other, []byte("e"))
	opened(t, d, 11, []byte("c"), []byte("d"), []byte("e"))
	opened(t, d, 10, []byte("a"))
}

// A long log is scanned in a time that grows with its length only.
func TestLongLog(t *testing.T) {
	var records [][]byte
	for n := range 50000 {
		records = append(records, []byte{byte(n)})
	}
	b := frames(records...)
	got, size := Scan(append(b, 1))
	if size != len(b) || !slices.EqualFunc(got, records, bytes.Equal) {
		t.Fatalf("Scan returns %d records of %d bytes, want %d of %d", len(got), size, len(records), len(b))
	}
}
