package disk

import (
	"bytes"
	"math"
	"math/rand"
	"slices"
	"testing"

	"skymosaic/api"
)

// noFiles are numbers that no file has.
var noFiles = []int{-1, 64, 65, math.MinInt, math.MaxInt, 1 << 32}

// made is a new disk, whose room has to be valid.
func made(t *testing.T, room int) *Disk {
	t.Helper()
	d, e := New(room)
	if d == nil || e != api.OK {
		t.Fatalf("New(%d) returns the error %d", room, e)
	}
	return d
}

// want checks the error of a call.
func want(t *testing.T, call string, got, e api.Errno) {
	t.Helper()
	if got != e {
		t.Fatalf("%s returns %d, want %d", call, got, e)
	}
}

// add appends bytes, which has to succeed.
func add(t *testing.T, d *Disk, file int, b ...byte) {
	t.Helper()
	want(t, "Append", d.Append(file, b), api.OK)
}

// sync makes all bytes durable, which has to succeed.
func sync(t *testing.T, d *Disk) {
	t.Helper()
	want(t, "Sync", d.Sync(), api.OK)
}

// has checks the bytes of a file, which is read twice to see that reading changes nothing.
func has(t *testing.T, d *Disk, file int, b ...byte) {
	t.Helper()
	for range 2 {
		if got, e := d.Read(file); e != api.OK || !bytes.Equal(got, b) {
			t.Fatalf("Read(%d) = %v, %d, want %v, OK", file, got, e, b)
		}
	}
}

// looksLike checks what can be seen whether the power is on or off.
func looksLike(t *testing.T, d *Disk, on bool, used int, files ...int) {
	t.Helper()
	if d.On() != on || d.Used() != used || !slices.Equal(d.Files(), files) {
		t.Fatalf("On, Used and Files are %t, %d and %v, want %t, %d and %v", d.On(), d.Used(), d.Files(), on, used, files)
	}
}

// survives checks which bytes of a file a crash leaves that keeps so many loose bytes of each file. It crashes a copy.
func survives(t *testing.T, d *Disk, keep, file int, b ...byte) {
	t.Helper()
	other := d.Copy()
	other.Crash(slices.Repeat([]int{keep}, 64), -1)
	has(t, other, file, b...)
}

// off returns a disk whose power has failed during a Sync, with the durable bytes 1 and 2 and the loose ones 3 and 4 in file 5
// and no room for more.
func off(t *testing.T) *Disk {
	t.Helper()
	d := made(t, 4)
	add(t, d, 5, 1, 2)
	sync(t, d)
	add(t, d, 5, 3, 4)
	d.Arm(0)
	want(t, "Sync during which the power fails", d.Sync(), api.ErrDown)
	return d
}

func TestExamplesOfTheChapter(t *testing.T) {
	for _, c := range []struct {
		keep []int
		want []byte
	}{{[]int{1}, []byte{1, 2, 254}}, {nil, []byte{1, 2}}} {
		d := made(t, 100)
		add(t, d, 3, 1, 2)
		sync(t, d)
		add(t, d, 3, 255)
		d.Crash(c.keep, 7)
		has(t, d, 3, c.want...)
	}
	d := made(t, 100)
	d.Arm(0)
	want(t, "Append after Arm(0)", d.Append(3, []byte{1}), api.ErrDown)
	b, e := d.Read(3)
	want(t, "Read after it", e, api.ErrDown)
	if len(b) > 0 {
		t.Errorf("Read returns %v with ErrDown", b)
	}
}

// P5.1.
func TestNew(t *testing.T) {
	for _, room := range []int{-1, 1<<24 + 1, math.MinInt, math.MaxInt, -1 << 24, 1 << 32} {
		if d, e := New(room); d != nil || e != api.ErrArg {
			t.Errorf("New(%d) = %v, %d, want nil, ErrArg", room, d, e)
		}
	}
	for _, room := range []int{0, 1, 2, 1000, 1<<24 - 1, 1 << 24} {
		d := made(t, room)
		looksLike(t, d, true, 0)
		for file := range 64 {
			has(t, d, file)
		}
		for range 100 {
			want(t, "Append of no bytes", d.Append(1, nil), api.OK)
			sync(t, d)
		}
		want(t, "Append of too many bytes", d.Append(63, make([]byte, room+1)), api.ErrFull)
		want(t, "Append of as many bytes as there is room for", d.Append(63, make([]byte, room)), api.OK)
		want(t, "Append to a full disk", d.Append(0, []byte{7}), api.ErrFull)
		if d.Used() != room {
			t.Errorf("%d of %d bytes are used", d.Used(), room)
		}
	}
}

// P5.1.
func TestUsedFilesAndOn(t *testing.T) {
	d := made(t, 100)
	for _, file := range []int{63, 7, 0, 12, 8} {
		add(t, d, file, 1, 2)
	}
	add(t, d, 7, 3)
	add(t, d, 9)
	looksLike(t, d, true, 11, 0, 7, 8, 12, 63)
	want(t, "Truncate", d.Truncate(12, 0), api.OK)
	looksLike(t, d, true, 9, 0, 7, 8, 63)
	d.Arm(0)
	want(t, "Append during which the power fails", d.Append(2, []byte{5, 6}), api.ErrDown)
	looksLike(t, d, false, 11, 0, 2, 7, 8, 63)
	clear(d.Files())
	looksLike(t, d, false, 11, 0, 2, 7, 8, 63)
	d.Crash(nil, -1)
	looksLike(t, d, true, 0)
}

// P5.1 and P5.2: the room is one for the bytes of all files together.
func TestRoomOfAllFiles(t *testing.T) {
	d := made(t, 64)
	for file := range 64 {
		want(t, "Append of too many bytes", d.Append(file, make([]byte, 65-file)), api.ErrFull)
		add(t, d, file, byte(file))
	}
	for file := range 64 {
		want(t, "Append to a full disk", d.Append(file, []byte{1}), api.ErrFull)
		add(t, d, file)
		has(t, d, file, byte(file))
	}
	looksLike(t, d, true, 64, d.Files()...)
	want(t, "Truncate", d.Truncate(20, 0), api.OK)
	want(t, "Append of two bytes where there is room for one", d.Append(3, []byte{1, 2}), api.ErrFull)
	add(t, d, 3, 9)
	has(t, d, 3, 3, 9)
}

// P5.2: the errors of Append, in their order, none of which changes anything.
func TestErrorsOfAppend(t *testing.T) {
	for _, file := range noFiles {
		d := made(t, 2)
		want(t, "Append of one byte to no file", d.Append(file, []byte{1}), api.ErrArg)
		want(t, "Append of no bytes to no file", d.Append(file, nil), api.ErrArg)
		want(t, "Append of too many bytes to no file", d.Append(file, []byte{1, 2, 3}), api.ErrArg)
		looksLike(t, d, true, 0)
		want(t, "Append to no file without power", off(t).Append(file, []byte{1}), api.ErrArg)
	}
	d := off(t)
	for _, b := range [][]byte{nil, {1}, make([]byte, 1000)} {
		for _, file := range []int{0, 5, 63} {
			want(t, "Append without power", d.Append(file, b), api.ErrDown)
		}
	}
	looksLike(t, d, false, 4, 5)
	survives(t, d, 9, 5, 1, 2, 3, 4)
	d.Crash([]int{2}, -1)
	want(t, "Append to a full disk", d.Append(5, []byte{1}), api.ErrFull)
	has(t, d, 5, 1, 2, 3, 4)
}

// P5.2.
func TestAppend(t *testing.T) {
	d := made(t, 1000)
	b := []byte{1, 2, 3}
	add(t, d, 0, b...)
	add(t, d, 63, 9)
	want(t, "Append", d.Append(0, b), api.OK)
	has(t, d, 0, 1, 2, 3, 1, 2, 3)
	has(t, d, 63, 9)
	has(t, d, 1)
	survives(t, d, 0, 0)
	survives(t, d, 2, 0, 1, 2)
	sync(t, d)
	add(t, d, 0)
	want(t, "Append of nil", d.Append(0, nil), api.OK)
	survives(t, d, 0, 0, 1, 2, 3, 1, 2, 3)
	add(t, d, 0, 4)
	survives(t, d, 0, 0, 1, 2, 3, 1, 2, 3)
	survives(t, d, 1, 0, 1, 2, 3, 1, 2, 3, 4)
}

// P5.2 and R3: what is appended and what is read shares no memory with the disk, and is not changed.
func TestBytesAreNotShared(t *testing.T) {
	d := made(t, 100)
	b := append(make([]byte, 0, 20), 1, 2, 3)
	want(t, "Append", d.Append(4, b), api.OK)
	want(t, "Append", d.Append(5, b), api.OK)
	add(t, d, 4, 7)
	if !bytes.Equal(b[:6], []byte{1, 2, 3, 0, 0, 0}) {
		t.Fatalf("the argument of Append was changed to %v", b[:6])
	}
	clear(b)
	got, _ := d.Read(4)
	clear(got)
	has(t, d, 4, 1, 2, 3, 7)
	has(t, d, 5, 1, 2, 3)
	got, _ = d.Read(4)
	add(t, d, 4, 8)
	want(t, "Truncate", d.Truncate(4, 1), api.OK)
	want(t, "Rot", d.Rot(4, 0), api.OK)
	add(t, d, 4, 60, 61)
	if !bytes.Equal(got, []byte{1, 2, 3, 7}) || !bytes.Equal(append(got, 50)[:4], got) {
		t.Fatalf("a result of Read was changed to %v", got)
	}
	has(t, d, 4, 129, 60, 61)
	has(t, d, 5, 1, 2, 3)
}

// P5.2.
func TestErrorsOfRead(t *testing.T) {
	for _, d := range []*Disk{made(t, 10), off(t)} {
		for _, file := range noFiles {
			b, e := d.Read(file)
			want(t, "Read of no file", e, api.ErrArg)
			if len(b) > 0 {
				t.Errorf("Read(%d) returns %v with ErrArg", file, b)
			}
		}
	}
	d := off(t)
	for _, file := range []int{0, 5, 63} {
		b, e := d.Read(file)
		want(t, "Read without power", e, api.ErrDown)
		if len(b) > 0 {
			t.Errorf("Read(%d) returns %v with ErrDown", file, b)
		}
	}
}

// P5.3.
func TestSync(t *testing.T) {
	d := made(t, 100)
	sync(t, d)
	add(t, d, 1, 1)
	sync(t, d)
	add(t, d, 1, 2, 3)
	add(t, d, 40, 4)
	add(t, d, 63, 5, 6)
	survives(t, d, 0, 1, 1)
	survives(t, d, 0, 40)
	sync(t, d)
	sync(t, d)
	add(t, d, 1, 7)
	survives(t, d, 0, 1, 1, 2, 3)
	survives(t, d, 0, 40, 4)
	survives(t, d, 0, 63, 5, 6)
	survives(t, d, 1, 1, 1, 2, 3, 7)

	d = off(t)
	want(t, "Sync without power", d.Sync(), api.ErrDown)
	looksLike(t, d, false, 4, 5)
	survives(t, d, 0, 5, 1, 2)
	survives(t, d, 1, 5, 1, 2, 3)
}

// P5.3: bytes that remain stay durable or loose as they were.
func TestTruncate(t *testing.T) {
	for size := range 6 {
		d := made(t, 100)
		add(t, d, 9, 1, 2)
		sync(t, d)
		add(t, d, 9, 3, 4, 5)
		add(t, d, 10, 6)
		all := []byte{1, 2, 3, 4, 5}
		want(t, "Truncate", d.Truncate(9, size), api.OK)
		has(t, d, 9, all[:size]...)
		has(t, d, 10, 6)
		for keep := range 5 {
			survives(t, d, keep, 9, all[:min(size, 2+keep)]...)
		}
		// What follows is loose, also where durable bytes were removed.
		add(t, d, 9, 8, 9)
		survives(t, d, 0, 9, all[:min(size, 2)]...)
		survives(t, d, 100, 9, append(all[:size:size], 8, 9)...)
		sync(t, d)
		survives(t, d, 0, 9, append(all[:size:size], 8, 9)...)
	}
}

// P5.3.
func TestTruncateOfAnEmptyFile(t *testing.T) {
	d := made(t, 10)
	want(t, "Truncate of an empty file", d.Truncate(0, 0), api.OK)
	want(t, "Truncate of an empty file", d.Truncate(63, 0), api.OK)
	want(t, "Truncate of an empty file", d.Truncate(0, 1), api.ErrArg)
	looksLike(t, d, true, 0)
	add(t, d, 2, 1, 2)
	want(t, "Truncate", d.Truncate(2, 0), api.OK)
	looksLike(t, d, true, 0)
	has(t, d, 2)
	want(t, "Truncate", d.Truncate(2, 2), api.ErrArg)
	add(t, d, 2, 5)
	sync(t, d)
	want(t, "Truncate", d.Truncate(2, 0), api.OK)
	looksLike(t, d, true, 0)
	d.Crash([]int{5}, 3)
	has(t, d, 2)
}

// P5.3: the errors of Truncate, in their order, none of which changes anything.
func TestErrorsOfTruncate(t *testing.T) {
	on := made(t, 100)
	add(t, on, 5, 1, 2)
	sync(t, on)
	add(t, on, 5, 3, 4)
	for _, d := range []*Disk{on, off(t)} {
		for _, file := range noFiles {
			want(t, "Truncate of no file", d.Truncate(file, 0), api.ErrArg)
			want(t, "Truncate of no file", d.Truncate(file, -1), api.ErrArg)
		}
		for _, size := range []int{-1, 5, 6, math.MinInt, math.MaxInt} {
			want(t, "Truncate to a size that the file does not have", d.Truncate(5, size), api.ErrArg)
			want(t, "Truncate to a size that an empty file does not have", d.Truncate(6, size), api.ErrArg)
		}
		looksLike(t, d, d.On(), 4, 5)
		survives(t, d, 1, 5, 1, 2, 3)
		survives(t, d, 9, 5, 1, 2, 3, 4)
	}
	d := off(t)
	for size := range 5 {
		want(t, "Truncate without power", d.Truncate(5, size), api.ErrDown)
	}
	want(t, "Truncate of an empty file without power", d.Truncate(6, 0), api.ErrDown)
	looksLike(t, d, false, 4, 5)
	survives(t, d, 9, 5, 1, 2, 3, 4)
}

// steps are the kinds of steps, on a disk with the bytes 1 to 4 in file 1, the first two of which are durable.
var steps = []struct {
	name  string
	do    func(d *Disk) api.Errno
	after []byte // all bytes of file 1, if the power fails during the step
}{
	{"Append", func(d *Disk) api.Errno { return d.Append(1, []byte{5}) }, []byte{1, 2, 3, 4, 5}},
	{"Append of no bytes", func(d *Disk) api.Errno { return d.Append(1, nil) }, []byte{1, 2, 3, 4}},
	{"Append of no bytes to another file", func(d *Disk) api.Errno { return d.Append(2, nil) }, []byte{1, 2, 3, 4}},
	{"Sync", (*Disk).Sync, []byte{1, 2, 3, 4}},
	{"Truncate", func(d *Disk) api.Errno { return d.Truncate(1, 1) }, []byte{1, 2, 3, 4}},
	{"Truncate to 0", func(d *Disk) api.Errno { return d.Truncate(1, 0) }, []byte{1, 2, 3, 4}},
	{"Truncate that removes nothing", func(d *Disk) api.Errno { return d.Truncate(1, 4) }, []byte{1, 2, 3, 4}},
	{"Truncate of an empty file", func(d *Disk) api.Errno { return d.Truncate(3, 0) }, []byte{1, 2, 3, 4}},
}

// loaded is a disk on which each of the steps can be done.
func loaded(t *testing.T) *Disk {
	t.Helper()
	d := made(t, 1000)
	add(t, d, 1, 1, 2)
	sync(t, d)
	add(t, d, 1, 3, 4)
	return d
}

// P5.4 and P5.8: what each kind of step does as the planned one.
func TestPlannedStep(t *testing.T) {
	for _, step := range steps {
		d := loaded(t)
		d.Arm(0)
		looksLike(t, d, true, 4, 1)
		want(t, step.name+" as the planned step", step.do(d), api.ErrDown)
		looksLike(t, d, false, len(step.after), 1)
		survives(t, d, 0, 1, 1, 2)
		survives(t, d, 1, 1, 1, 2, 3)
		survives(t, d, 9, 1, step.after...)
		want(t, "Sync after it", d.Sync(), api.ErrDown)
		want(t, "Append after it", d.Append(1, []byte{6}), api.ErrDown)
		looksLike(t, d, false, len(step.after), 1)
	}
}

// P5.4 and P5.8: each kind of step counts as one of the further steps.
func TestStepsAreCounted(t *testing.T) {
	for _, step := range steps {
		for n := range 5 {
			d := loaded(t)
			d.Arm(n)
			for range n {
				want(t, "a further Sync", d.Sync(), api.OK)
			}
			want(t, "the planned Sync", d.Sync(), api.ErrDown)

			d = loaded(t)
			d.Arm(n + 1)
			want(t, step.name, step.do(d), api.OK)
			for range n {
				want(t, "a further Sync", d.Sync(), api.OK)
			}
			want(t, "the planned Sync", d.Sync(), api.ErrDown)
			looksLike(t, d, false, d.Used(), d.Files()...)
		}
	}
}

// The words of the chapter: what is not a step, as a call that returns ErrArg or ErrFull is not.
func TestWhatIsNoStep(t *testing.T) {
	d := loaded(t)
	add(t, d, 2, make([]byte, 996)...)
	d.Arm(1)
	for _, file := range noFiles {
		want(t, "Append to no file", d.Append(file, nil), api.ErrArg)
		want(t, "Truncate of no file", d.Truncate(file, 0), api.ErrArg)
	}
	want(t, "Truncate", d.Truncate(1, 5), api.ErrArg)
	want(t, "Truncate", d.Truncate(1, -1), api.ErrArg)
	want(t, "Append to a full disk", d.Append(1, []byte{1}), api.ErrFull)
	want(t, "Rot", d.Rot(1, 0), api.OK)
	want(t, "Rot of no bit", d.Rot(3, 0), api.ErrArg)
	has(t, d, 1, 129, 2, 3, 4)
	d.Read(64)
	looksLike(t, d, true, 1000, 1, 2)
	d.Copy().Sync()
	want(t, "the further step", d.Sync(), api.OK)
	want(t, "Append to a full disk", d.Append(1, []byte{1}), api.ErrFull)
	want(t, "Append to no file", d.Append(64, []byte{1}), api.ErrArg)
	has(t, d, 1, 129, 2, 3, 4)
	want(t, "the planned step", d.Append(1, nil), api.ErrDown)
	want(t, "Append to no file without power", d.Append(64, []byte{1}), api.ErrArg)
}

// P5.4: plans are replaced, or given up.
func TestArmAgain(t *testing.T) {
	for _, n := range []int{-1, -2, math.MinInt} {
		d := made(t, 10)
		for _, before := range []int{0, 1, 5} {
			d.Arm(before)
			d.Arm(n)
			for range 20 {
				sync(t, d)
			}
		}
		d.Arm(0)
		want(t, "the planned step", d.Sync(), api.ErrDown)
	}
	for _, plans := range [][]int{{0, 3}, {9, 3}, {3, 3}, {-1, 3}, {math.MaxInt, 3}} {
		d := made(t, 10)
		for _, n := range plans {
			d.Arm(n)
		}
		for range 3 {
			sync(t, d)
		}
		want(t, "the planned step", d.Sync(), api.ErrDown)
	}
	d := made(t, 10)
	d.Arm(2)
	sync(t, d)
	d.Arm(2)
	sync(t, d)
	sync(t, d)
	want(t, "the planned step", d.Sync(), api.ErrDown)

	d = made(t, 10)
	d.Arm(math.MaxInt)
	for range 100 {
		sync(t, d)
	}
}

// P5.4 and P5.5: without power, Arm has no effect, and a crash ends every plan.
func TestArmWithoutPower(t *testing.T) {
	for _, n := range []int{-1, 0, 1, 3} {
		d := off(t)
		d.Arm(n)
		looksLike(t, d, false, 4, 5)
		want(t, "Sync without power", d.Sync(), api.ErrDown)
		d.Crash(nil, -1)
		for range 10 {
			sync(t, d)
		}
		d.Arm(5)
		d.Crash(nil, -1)
		for range 10 {
			sync(t, d)
		}
		d.Arm(0)
		d.Crash(nil, -1)
		looksLike(t, d, true, 2, 5)
		sync(t, d)
	}
}

// P5.5: the indices of keep are those of the files that are not empty, and not their numbers.
func TestCrashKeepsTheFirstLooseBytes(t *testing.T) {
	d := made(t, 1000)
	add(t, d, 9, 90)
	add(t, d, 30, 31, 32)
	add(t, d, 2, 21, 22)
	sync(t, d)
	want(t, "Truncate", d.Truncate(9, 0), api.OK)
	add(t, d, 30, 33, 34, 35)
	add(t, d, 63, 64, 65)
	add(t, d, 4, 41, 42, 43)
	for _, c := range []struct {
		keep               []int
		four, thirty, last []byte
		used               int
		files              []int
	}{
		{nil, nil, []byte{31, 32}, nil, 4, []int{2, 30}},
		{[]int{9}, nil, []byte{31, 32}, nil, 4, []int{2, 30}},
		{[]int{0, 1}, []byte{41}, []byte{31, 32}, nil, 5, []int{2, 4, 30}},
		{[]int{5, 3, 2, 1, 4}, []byte{41, 42, 43}, []byte{31, 32, 33, 34}, []byte{64}, 10, []int{2, 4, 30, 63}},
		{[]int{-1, -1, math.MinInt, math.MaxInt}, nil, []byte{31, 32}, []byte{64, 65}, 6, []int{2, 30, 63}},
		{[]int{0, 4, 4, 3, 9, 9, 9}, []byte{41, 42, 43}, []byte{31, 32, 33, 34, 35}, []byte{64, 65}, 12, []int{2, 4, 30, 63}},
	} {
		other, keep := d.Copy(), slices.Clone(c.keep)
		other.Crash(c.keep, -1)
		looksLike(t, other, true, c.used, c.files...)
		has(t, other, 2, 21, 22)
		has(t, other, 4, c.four...)
		has(t, other, 9)
		has(t, other, 30, c.thirty...)
		has(t, other, 63, c.last...)
		if !slices.Equal(keep, c.keep) {
			t.Errorf("Crash changes its argument %v to %v", keep, c.keep)
		}
		// All bytes are durable now, so that nothing can be lost or changed.
		other.Crash(nil, 0)
		looksLike(t, other, true, c.used, c.files...)
		has(t, other, 30, c.thirty...)
		has(t, other, 63, c.last...)
	}
}

// P5.5: bits are counted through the loose bytes that survive, in the order of the files.
func TestCrashFlipsABit(t *testing.T) {
	d := made(t, 100)
	add(t, d, 50, 0, 0)
	add(t, d, 3, 0)
	add(t, d, 8, 0, 0)
	sync(t, d)
	add(t, d, 50, 0, 0, 0)
	add(t, d, 7, 0, 0)
	add(t, d, 3, 0, 0)
	// Files 3, 7 and 50 keep 1, 2 and 2 loose bytes, with 40 bits; file 8 has none.
	places := []struct{ file, at int }{{3, 1}, {7, 0}, {7, 1}, {50, 2}, {50, 3}}
	for _, round := range []int{0, 1, 2, 1 << 40, (math.MaxInt - 39) / 40} {
		for bit := range 40 {
			contents := map[int][]byte{3: {0, 0}, 7: {0, 0}, 8: {0, 0}, 50: {0, 0, 0, 0}}
			place := places[bit/8]
			contents[place.file][place.at] = []byte{128, 64, 32, 16, 8, 4, 2, 1}[bit%8]
			other := d.Copy()
			other.Crash([]int{1, 2, 0, 2}, 40*round+bit)
			for file, b := range contents {
				has(t, other, file, b...)
			}
			looksLike(t, other, true, 10, 3, 7, 8, 50)
		}
	}
	for _, flip := range []int{-1, -8, -40, math.MinInt} {
		other := d.Copy()
		other.Crash([]int{1, 2, 0, 2}, flip)
		has(t, other, 3, 0, 0)
		has(t, other, 7, 0, 0)
		has(t, other, 50, 0, 0, 0, 0)
	}
	for _, flip := range []int{0, 1, 7, 100, math.MaxInt} {
		other := d.Copy()
		other.Crash(nil, flip)
		looksLike(t, other, true, 5, 3, 8, 50)
		has(t, other, 3, 0)
		has(t, other, 8, 0, 0)
		has(t, other, 50, 0, 0)
	}
}

// P5.5: a bit is inverted, whether it is set or not, of the last loose byte of all too.
func TestCrashInvertsBothWays(t *testing.T) {
	for _, value := range []byte{0, 255, 0b10100101} {
		for bit := range 8 {
			d := made(t, 10)
			add(t, d, 0, value)
			d.Crash([]int{1}, bit)
			has(t, d, 0, value^byte(128>>bit))
		}
	}
	d := made(t, 10)
	add(t, d, 0, 1)
	add(t, d, 63, 2, 3)
	other := d.Copy()
	d.Crash([]int{1, 2}, 23)
	has(t, d, 63, 2, 2)
	other.Crash([]int{1, 2}, math.MaxInt)
	// 2^63 - 1 is 7 modulo 24.
	has(t, other, 0, 0)
	has(t, other, 63, 2, 3)
}

// P5.5: of a disk whose power is off.
func TestCrashWithoutPower(t *testing.T) {
	d := off(t)
	d.Crash([]int{1}, 6)
	looksLike(t, d, true, 3, 5)
	has(t, d, 5, 1, 2, 1)
	add(t, d, 5, 7)
	survives(t, d, 0, 5, 1, 2, 1)
	want(t, "Append to a full disk", d.Append(5, []byte{1}), api.ErrFull)
	empty := made(t, 0)
	empty.Arm(0)
	want(t, "the planned step", empty.Sync(), api.ErrDown)
	empty.Crash([]int{1, 2}, 5)
	looksLike(t, empty, true, 0)
	sync(t, empty)
}

// P5.6.
func TestCopy(t *testing.T) {
	d := made(t, 10)
	add(t, d, 1, 1, 2)
	sync(t, d)
	add(t, d, 1, 3, 4)
	d.Arm(2)
	other := d.Copy()
	looksLike(t, other, true, 4, 1)
	has(t, other, 1, 1, 2, 3, 4)
	survives(t, other, 1, 1, 1, 2, 3)
	add(t, other, 1, 5)
	add(t, d, 1, 9)
	has(t, other, 1, 1, 2, 3, 4, 5)
	has(t, d, 1, 1, 2, 3, 4, 9)
	want(t, "Rot", other.Rot(1, 7), api.OK)
	add(t, other, 2, 6)
	looksLike(t, d, true, 5, 1)
	has(t, d, 1, 1, 2, 3, 4, 9)
	want(t, "the planned step of the copy", other.Sync(), api.ErrDown)
	looksLike(t, d, true, 5, 1)
	looksLike(t, other, false, 6, 1, 2)
	third := other.Copy()
	looksLike(t, third, false, 6, 1, 2)
	third.Crash([]int{9, 9}, -1)
	looksLike(t, other, false, 6, 1, 2)
	has(t, third, 1, 0, 2, 3, 4, 5)
	want(t, "Append of too many bytes", third.Append(1, make([]byte, 5)), api.ErrFull)
	want(t, "Append of as many bytes as there is room for", third.Append(1, make([]byte, 4)), api.OK)
	want(t, "Truncate", d.Truncate(1, 0), api.OK)
	want(t, "the planned step", d.Sync(), api.ErrDown)
	survives(t, other, 0, 1, 0, 2)
}

// P5.9.
func TestRot(t *testing.T) {
	d := loaded(t)
	for bit := range 32 {
		all := []byte{1, 2, 3, 4}
		all[bit/8] ^= []byte{128, 64, 32, 16, 8, 4, 2, 1}[bit%8]
		want(t, "Rot", d.Rot(1, bit), api.OK)
		has(t, d, 1, all...)
		survives(t, d, 0, 1, all[:2]...)
		survives(t, d, 1, 1, all[:3]...)
		want(t, "Rot", d.Rot(1, bit), api.OK)
		has(t, d, 1, 1, 2, 3, 4)
	}
	d = off(t)
	for _, bit := range []int{0, 15, 16, 31} {
		want(t, "Rot without power", d.Rot(5, bit), api.OK)
	}
	looksLike(t, d, false, 4, 5)
	survives(t, d, 9, 5, 129, 3, 131, 5)
	survives(t, d, 0, 5, 129, 3)
	d = made(t, 100)
	add(t, d, 0, 1)
	add(t, d, 63, 1)
	want(t, "Rot", d.Rot(63, 7), api.OK)
	has(t, d, 0, 1)
	has(t, d, 63, 0)
	want(t, "Rot", d.Rot(0, 6), api.OK)
	has(t, d, 0, 3)
}

// P5.9.
func TestErrorsOfRot(t *testing.T) {
	on := made(t, 100)
	add(t, on, 5, 1, 2, 3, 4)
	for _, d := range []*Disk{on, off(t)} {
		for _, file := range append([]int{0, 4, 6, 63}, noFiles...) {
			for _, bit := range []int{-1, 0, 1, 31} {
				want(t, "Rot of no file, or of an empty one", d.Rot(file, bit), api.ErrArg)
			}
		}
		for _, bit := range []int{-1, -7, -8, -9, 32, 33, math.MinInt, math.MaxInt} {
			want(t, "Rot of no bit", d.Rot(5, bit), api.ErrArg)
		}
		looksLike(t, d, d.On(), 4, 5)
		survives(t, d, 9, 5, 1, 2, 3, 4)
	}
	want(t, "Truncate", on.Truncate(5, 2), api.OK)
	want(t, "Rot of a bit that was removed", on.Rot(5, 16), api.ErrArg)
	want(t, "Rot of the last bit", on.Rot(5, 15), api.OK)
	has(t, on, 5, 1, 3)
}

// P5.7: durable bytes survive every crash, followed by a prefix of the loose ones; after a Sync, a crash changes nothing.
func TestCrashes(t *testing.T) {
	source := rand.New(rand.NewSource(1))
	for range 2000 {
		d := made(t, 200)
		var durable, all [3][]byte
		grow := func() {
			for range source.Intn(8) {
				i := source.Intn(3)
				b := make([]byte, source.Intn(4))
				source.Read(b)
				add(t, d, 10*i, b...)
				all[i] = append(all[i], b...)
			}
		}
		grow()
		sync(t, d)
		for i := range all {
			durable[i] = slices.Clone(all[i])
		}
		synced := d.Copy()
		synced.Crash([]int{source.Intn(3), source.Intn(3)}, source.Intn(100))
		grow()
		d.Crash([]int{source.Intn(9) - 1, source.Intn(9) - 1, source.Intn(9) - 1}, source.Intn(40)-10)
		changes := 0
		for i := range all {
			has(t, synced, 10*i, durable[i]...)
			got, _ := d.Read(10 * i)
			if len(got) < len(durable[i]) || len(got) > len(all[i]) || !bytes.HasPrefix(got, durable[i]) {
				t.Fatalf("after a crash, a file of the durable bytes %v and all bytes %v has the bytes %v", durable[i], all[i], got)
			}
			for j, b := range got {
				for change := b ^ all[i][j]; change != 0; change &= change - 1 {
					changes++
				}
			}
		}
		if changes > 1 {
			t.Fatalf("a crash changes %d bits", changes)
		}
	}
}

// P5.8: what a file contains depends only on the order of its own Appends and Truncates.
func TestFilesAreIndependent(t *testing.T) {
	source := rand.New(rand.NewSource(2))
	for range 300 {
		together := made(t, 1<<24)
		alone := [64]*Disk{}
		for file := range alone {
			alone[file] = made(t, 1<<24)
		}
		for range 100 {
			file := source.Intn(64)
			switch size := len(readAll(alone[file], file)); source.Intn(4) {
			case 0:
				to := source.Intn(size + 1)
				want(t, "Truncate", together.Truncate(file, to), api.OK)
				want(t, "Truncate", alone[file].Truncate(file, to), api.OK)
			case 1:
				sync(t, together)
			default:
				b := make([]byte, source.Intn(20))
				source.Read(b)
				add(t, together, file, b...)
				add(t, alone[file], file, b...)
			}
		}
		for file := range alone {
			has(t, together, file, readAll(alone[file], file)...)
		}
	}
}

func readAll(d *Disk, file int) []byte {
	b, _ := d.Read(file)
	return b
}
