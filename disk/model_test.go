package disk

import (
	"math"
	"math/rand"
	"slices"
	"testing"

	"skymosaic/api"
)

// cell is a byte of a file of the model.
type cell struct {
	bits  [8]bool // from the most significant one on
	loose bool
}

// model is a disk as the chapter's words say it, without regard to speed.
type model struct {
	room  int
	files [64][]cell
	on    bool
	plan  []bool // for each further step, whether it succeeds; the last one does not
}

func (m *model) used() int {
	return len(slices.Concat(m.files[:]...))
}

func (m *model) numbers() []int {
	list := []int{}
	for file, cells := range m.files {
		if len(cells) > 0 {
			list = append(list, file)
		}
	}
	return list
}

// fails counts a step and reports whether the power fails during it.
func (m *model) fails() bool {
	if len(m.plan) == 0 {
		return false
	}
	m.on = m.plan[0]
	m.plan = m.plan[1:]
	return !m.on
}

func (m *model) append(file int, b []byte) api.Errno {
	if file < 0 || file > 63 {
		return api.ErrArg
	}
	if !m.on {
		return api.ErrDown
	}
	if m.used()+len(b) > m.room {
		return api.ErrFull
	}
	for _, value := range b {
		c := cell{loose: true}
		for i := range c.bits {
			c.bits[i] = value&(128>>i) != 0
		}
		m.files[file] = append(m.files[file], c)
	}
	if m.fails() {
		return api.ErrDown
	}
	return api.OK
}

func (m *model) sync() api.Errno {
	if !m.on || m.fails() {
		return api.ErrDown
	}
	m.settle()
	return api.OK
}

func (m *model) settle() {
	for _, cells := range m.files {
		for i := range cells {
			cells[i].loose = false
		}
	}
}

func (m *model) truncate(file, size int) api.Errno {
	if file < 0 || file > 63 || size < 0 || size > len(m.files[file]) {
		return api.ErrArg
	}
	if !m.on || m.fails() {
		return api.ErrDown
	}
	m.files[file] = slices.Clone(m.files[file][:size])
	return api.OK
}

func (m *model) arm(n int) {
	if !m.on {
		return
	}
	m.plan = nil
	if n >= 0 {
		m.plan = append(slices.Repeat([]bool{true}, n), false)
	}
}

func (m *model) crash(keep []int, flip int) {
	var bits []*bool
	for i, file := range m.numbers() {
		var left []cell
		lost := 0
		for _, c := range m.files[file] {
			if c.loose {
				lost++
			}
			if !c.loose || i < len(keep) && lost <= keep[i] {
				left = append(left, c)
			}
		}
		m.files[file] = left
		for j := range left {
			for k := range 8 {
				if left[j].loose {
					bits = append(bits, &left[j].bits[k])
				}
			}
		}
	}
	if flip >= 0 && len(bits) > 0 {
		bit := bits[flip%len(bits)]
		*bit = !*bit
	}
	m.settle()
	m.on, m.plan = true, nil
}

func (m *model) rot(file, bit int) api.Errno {
	if file < 0 || file > 63 || bit < 0 || bit >= 8*len(m.files[file]) {
		return api.ErrArg
	}
	b := &m.files[file][bit/8].bits[bit%8]
	*b = !*b
	return api.OK
}

func (m *model) copy() *model {
	other := *m
	for file := range other.files {
		other.files[file] = slices.Clone(m.files[file])
	}
	return &other
}

// content is the bytes of a file, the loose ones only if they are asked for.
func (m *model) content(file int, withLoose bool) []byte {
	b := []byte{}
	for _, c := range m.files[file] {
		value := byte(0)
		for _, bit := range c.bits {
			value <<= 1
			if bit {
				value |= 1
			}
		}
		if withLoose || !c.loose {
			b = append(b, value)
		}
	}
	return b
}

// agrees checks all that can be seen of a disk, now and after crashes.
func agrees(t *testing.T, d *Disk, m *model) {
	t.Helper()
	looksLike(t, d, m.on, m.used(), m.numbers()...)
	for file := range 64 {
		if m.on {
			has(t, d, file, m.content(file, true)...)
		} else if b, e := d.Read(file); len(b) > 0 || e != api.ErrDown {
			t.Fatalf("Read without power returns %v and %d", b, e)
		}
	}
	none, all := d.Copy(), d.Copy()
	none.Crash(nil, -1)
	all.Crash(slices.Repeat([]int{m.room}, 64), -1)
	for file := range 64 {
		has(t, none, file, m.content(file, false)...)
		has(t, all, file, m.content(file, true)...)
	}
}

// chance makes arguments that are often at the ends of what is valid.
type chance struct{ *rand.Rand }

func (c chance) file() int {
	return []int{0, 1, 2, 5, 62, 63, -1, 64}[c.Intn(8)]
}

func (c chance) size(cells int) int {
	return []int{0, cells - 1, cells, cells + 1, c.Intn(cells + 1), c.Intn(cells + 1)}[c.Intn(6)]
}

func (c chance) keep() []int {
	keep := make([]int, c.Intn(8))
	for i := range keep {
		keep[i] = []int{-1, 0, 1, 2, 3, 5, math.MaxInt, math.MinInt}[c.Intn(8)]
	}
	return keep
}

// operate does the same on a disk and on the model, and checks the errors.
func operate(t *testing.T, d *Disk, m *model, c chance) {
	t.Helper()
	file := c.file()
	cells := 0
	if file >= 0 && file < 64 {
		cells = len(m.files[file])
	}
	switch c.Intn(12) {
	case 0, 1, 2, 3:
		b := make([]byte, c.Intn(7))
		c.Read(b)
		want(t, "Append", d.Append(file, b), m.append(file, b))
	case 4, 5:
		want(t, "Sync", d.Sync(), m.sync())
	case 6, 7:
		size := c.size(cells)
		want(t, "Truncate", d.Truncate(file, size), m.truncate(file, size))
	case 8:
		n := c.Intn(8) - 1
		d.Arm(n)
		m.arm(n)
	case 9:
		keep, flip := c.keep(), c.Intn(200)-50
		d.Crash(keep, flip)
		m.crash(keep, flip)
	default:
		bit := c.Intn(8*cells+3) - 1
		want(t, "Rot", d.Rot(file, bit), m.rot(file, bit))
	}
}

// P5.1 to P5.9: any calls in any order, on a disk and on a copy that goes its own way.
func TestAnyCalls(t *testing.T) {
	c := chance{rand.New(rand.NewSource(3))}
	for range 300 {
		room := c.Intn(60)
		d, m := made(t, room), &model{room: room, on: true}
		for range 30 {
			operate(t, d, m, c)
			agrees(t, d, m)
		}
		other, copied := d.Copy(), m.copy()
		for range 10 {
			operate(t, d, m, c)
			operate(t, other, copied, c)
			agrees(t, d, m)
			agrees(t, other, copied)
		}
	}
}

// R1: the same calls lead to the same state, whatever was removed before.
func TestStateHasNoPast(t *testing.T) {
	d := made(t, 100)
	for file := range 64 {
		add(t, d, file, 1)
	}
	sync(t, d)
	for file := range 64 {
		want(t, "Truncate", d.Truncate(63-file, 0), api.OK)
	}
	agrees(t, d, &model{room: 100, on: true})
	add(t, d, 4, 2, 3)
	m := &model{room: 100, on: true}
	m.append(4, []byte{2, 3})
	agrees(t, d, m)
}
