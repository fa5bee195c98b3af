package journal

import (
	"bytes"
	"encoding/binary"
	"math/rand"
	"slices"
	"testing"

	"skymosaic/api"
	"skymosaic/disk"
	"skymosaic/hash"
)

// raw is the encoding of a byte slice.
func raw(b []byte) []byte {
	return append(binary.AppendUvarint(nil, uint64(len(b))), b...)
}

// coreOf is the core of a record, written without package wire.
func coreOf(number int, b []byte) []byte {
	return append(binary.AppendVarint(nil, int64(number)), raw(b)...)
}

// frameOf is what a frame with any core has to be.
func frameOf(core []byte) []byte {
	return binary.AppendUvarint(raw(core), hash.Bytes("frame", core))
}

// varint reads a varint in its shortest form from the beginning of b. It returns the bytes after it.
func varint(b []byte) (uint64, []byte, bool) {
	n, size := binary.Uvarint(b)
	if size <= 0 || len(binary.AppendUvarint(nil, n)) != size {
		return 0, nil, false
	}
	return n, b[size:], true
}

// slice reads a byte slice from the beginning of b. It returns the bytes after it.
func slice(b []byte) (s, rest []byte, ok bool) {
	length, b, ok := varint(b)
	if !ok || length > uint64(len(b)) {
		return nil, nil, false
	}
	return b[:length], b[length:], true
}

// recordAt reads the frame at the beginning of b as the chapter's words say it. It returns the bytes after the frame.
func recordAt(number int, b []byte) (record, rest []byte, ok bool) {
	core, rest, ok := slice(b)
	if !ok {
		return nil, nil, false
	}
	sum, rest, ok := varint(rest)
	if !ok || sum != hash.Bytes("frame", core) {
		return nil, nil, false
	}
	zigzag, inner, ok := varint(core)
	if !ok || int(zigzag>>1)^-int(zigzag&1) != number {
		return nil, nil, false
	}
	record, left, ok := slice(inner)
	return record, rest, ok && len(left) == 0
}

// scanned is what Scan has to return.
func scanned(b []byte) ([][]byte, int) {
	var records [][]byte
	rest := b
	for {
		record, after, ok := recordAt(len(records), rest)
		if !ok {
			return records, len(b) - len(rest)
		}
		records, rest = append(records, record), after
	}
}

// changed is a slice with a few random changes.
func changed(b []byte, r *rand.Rand) []byte {
	b = slices.Clone(b)
	for range r.Intn(3) {
		i := r.Intn(len(b) + 1)
		switch {
		case i == len(b):
			b = append(b, byte(r.Intn(256)))
		case r.Intn(4) == 0:
			b = slices.Insert(b, i, []byte{0, 1, 128, 255}[r.Intn(4)])
		case r.Intn(3) == 0:
			b = slices.Delete(b, i, i+1)
		case r.Intn(4) == 0:
			b = b[:i]
		default:
			b[i] ^= 1 << r.Intn(8)
		}
	}
	return b
}

// randomCore is often the core of the record with a number, sometimes nearly.
func randomCore(number int, r *rand.Rand) []byte {
	if r.Intn(40) == 0 {
		number += r.Intn(3) - 1
	}
	core := coreOf(number, randomBytes(r))
	if r.Intn(30) == 0 {
		core = changed(core, r)
	}
	return core
}

// randomBytes is mostly short, and sometimes so long that its length has two bytes.
func randomBytes(r *rand.Rand) []byte {
	b := make([]byte, []int{0, 1, 2, r.Intn(20), r.Intn(300)}[r.Intn(5)])
	r.Read(b)
	return b
}

// P6.1: any slices, many of which are nearly those of a log.
func TestScanOfAnyBytes(t *testing.T) {
	r := rand.New(rand.NewSource(6))
	lengths := map[int]int{}
	for range 20000 {
		var b []byte
		for number := range r.Intn(8) {
			frame := frameOf(randomCore(number, r))
			if r.Intn(40) == 0 {
				frame = changed(frame, r)
			}
			b = append(b, frame...)
		}
		if r.Intn(2) == 0 {
			b = changed(b, r)
		}
		records, size := scanned(b)
		scans(t, b, size, records...)
		lengths[len(records)]++
	}
	for n := range 8 {
		if lengths[n] < 100 {
			t.Errorf("only %d slices with %d records were tried", lengths[n], n)
		}
	}
}

// looks is all that can be seen of a disk: the bytes of its files, those of them that survive a crash, and after how many
// further steps the power fails.
func looks(t *testing.T, d *disk.Disk) (all, durable [64]string, steps int) {
	t.Helper()
	kept, lost := d.Copy(), d.Copy()
	kept.Crash(slices.Repeat([]int{1 << 24}, 64), -1)
	lost.Crash(nil, -1)
	for file := range 64 {
		all[file] = string(content(t, kept, file))
		durable[file] = string(content(t, lost, file))
	}
	for other := d.Copy(); steps < 20 && other.Sync() == api.OK; steps++ {
	}
	return all, durable, steps
}

// same checks that two disks are in the same state.
func same(t *testing.T, got, want *disk.Disk) {
	t.Helper()
	all, durable, steps := looks(t, got)
	wantAll, wantDurable, wantSteps := looks(t, want)
	if got.On() != want.On() || all != wantAll || durable != wantDurable || steps != wantSteps {
		t.Fatalf("the disk is not in the state that it has to be in: power %t, steps %d, want %t, %d", got.On(), steps, want.On(), wantSteps)
	}
}

// book is a log with what it has to have.
type book struct {
	file    int
	log     *Log
	records [][]byte
	last    []byte // the record of the last Append, if that returned ErrDown
	failed  bool
	up      bool
}

// add appends a record. The same calls on a copy of the disk lead to what Append has to do.
func (k *book) add(t *testing.T, d *disk.Disk, b []byte) {
	t.Helper()
	other := d.Copy()
	e := api.ErrDown
	if k.up {
		e = other.Append(k.file, frameOf(coreOf(len(k.records), b)))
		if e == api.OK {
			e = other.Sync()
		}
		k.failed, k.last = e == api.ErrDown, b
		k.up = !k.failed
	}
	want(t, "Append", k.log.Append(b), e)
	if e == api.OK {
		k.records = append(k.records, b)
	}
	same(t, d, other)
	k.check(t)
}

func (k *book) check(t *testing.T) {
	t.Helper()
	if k.log.Len() != len(k.records) || k.log.Up() != k.up {
		t.Fatalf("Len and Up are %d and %t, want %d and %t", k.log.Len(), k.log.Up(), len(k.records), k.up)
	}
}

// open opens the log anew. It reports whether the power was on to the end.
func (k *book) open(t *testing.T, d *disk.Disk) bool {
	t.Helper()
	other := d.Copy()
	b, e := other.Read(k.file)
	if _, size := scanned(b); e == api.OK && len(b) > size {
		e = other.Truncate(k.file, size)
	}
	if e == api.OK {
		e = other.Sync()
	}
	log, records, got := Open(d, k.file)
	want(t, "Open", got, e)
	same(t, d, other)
	if e != api.OK {
		if log != nil || len(records) > 0 {
			t.Fatalf("Open returns a log or %d records with the error %d", len(records), e)
		}
		return false
	}
	k.log, k.up = log, true
	if k.failed && len(records) == len(k.records)+1 {
		k.records = append(k.records, k.last)
	}
	k.failed = false
	if !slices.EqualFunc(records, k.records, bytes.Equal) {
		t.Fatalf("Open returns the records %v, want %v", records, k.records)
	}
	k.check(t)
	return true
}

// P6.2 to P6.7: any calls in any order, on logs in three files of a disk.
func TestAnyCalls(t *testing.T) {
	r := rand.New(rand.NewSource(7))
	for range 150 {
		d := made(t, 100+r.Intn(600))
		books := []*book{{file: 0}, {file: 1}, {file: 63}}
		for _, k := range books {
			k.open(t, d)
		}
		for range 40 {
			k := books[r.Intn(len(books))]
			switch r.Intn(10) {
			case 0:
				d.Arm(r.Intn(6))
			case 1:
				k.open(t, d)
			case 2:
				crash(t, d, books, r)
			default:
				k.add(t, d, randomBytes(r))
			}
		}
	}
}

// crash lets the power fail and opens all logs again, at which the power can fail, too.
func crash(t *testing.T, d *disk.Disk, books []*book, r *rand.Rand) {
	t.Helper()
	for again := true; again; {
		again = false
		d.Crash([]int{r.Intn(60), r.Intn(60), r.Intn(60)}, r.Intn(600)-300)
		if r.Intn(3) == 0 {
			d.Arm(r.Intn(5))
		}
		for _, k := range books {
			again = !k.open(t, d) || again
		}
	}
}
