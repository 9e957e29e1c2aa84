package blockdev_test

import (
	"math"
	"slices"
	"strings"
	"testing"

	"wattle/api"
	"wattle/blockdev"
)

// The plain model: the chapter's words, with bytes laid one by one; all writes behind the last flush stand in one list, through which each answer goes.

type modelWrite struct {
	block int
	data  []byte
}

type model struct {
	blocks, sectors int
	flushed         [][]byte
	writes          []modelWrite
	down            bool
	at              int
	plan            blockdev.Crash
	calls, reads    int
}

func newModel(blocks, sectors int) *model {
	m := &model{blocks: blocks, sectors: sectors}
	for range blocks {
		m.flushed = append(m.flushed, make([]byte, sectors*512))
	}
	return m
}

// has is what a block has.
func (m *model) has(n int) string {
	text := m.flushed[n]
	for _, w := range m.writes {
		if w.block == n {
			text = w.data
		}
	}
	return string(text)
}

func (m *model) image() []string {
	var l []string
	for n := range m.blocks {
		l = append(l, m.has(n))
	}
	return l
}

// fall takes the model down.
func (m *model) fall(c blockdev.Crash) {
	for i, w := range m.writes {
		for at := range w.data {
			there := slices.Contains(c.Keep, i)
			if i == c.Torn {
				there = c.Mask&(1<<(at/512)) != 0
			}
			if there {
				m.flushed[w.block][at] = w.data[at]
			}
		}
	}
	m.writes, m.down, m.at = nil, true, 0
}

// counts counts a call, and takes the model down, if it was planned for it.
func (m *model) counts() bool {
	m.calls++
	m.at--
	if m.at == 0 {
		m.fall(m.plan)
		return true
	}
	m.at = max(m.at, 0)
	return false
}

func (m *model) flush() api.Errno {
	if m.counts() {
		return api.ErrDown
	}
	for _, w := range m.writes {
		m.flushed[w.block] = slices.Clone(w.data)
	}
	m.writes = nil
	return api.OK
}

func (m *model) corrupt(n, at int, data string) {
	copy(m.flushed[n][at:], data)
	for _, w := range m.writes {
		if w.block == n {
			copy(w.data[at:], data)
		}
	}
}

// step is a call, with what is handed in.
type step struct {
	call  string
	n, at int
	data  string
	crash blockdev.Crash
}

// answer is what a call answers.
type answer struct {
	text string
	e    api.Errno
}

// do makes the step's call.
func do(d *blockdev.Device, s step) answer {
	switch s.call {
	case "Read":
		text, e := d.Read(s.n)
		return answer{text, e}
	case "Write":
		return answer{"", d.Write(s.n, s.data)}
	case "Flush":
		return answer{"", d.Flush()}
	case "Plan":
		return answer{"", d.Plan(s.at, s.crash)}
	case "Pull":
		return answer{"", d.Pull(s.crash)}
	case "Restart":
		return answer{"", d.Restart()}
	case "Corrupt":
		return answer{"", d.Corrupt(s.n, s.at, s.data)}
	}
	panic("no call " + s.call)
}

// do is what the step's call answers of the model.
func (m *model) do(s step) answer {
	there, size := s.n >= 0 && s.n < m.blocks, m.sectors*512
	switch s.call {
	case "Restart":
		if !m.down {
			return answer{"", api.ErrDone}
		}
		m.down = false
		return answer{}
	case "Corrupt":
		if !there || s.at < 0 || s.at > size || s.at+len(s.data) > size {
			return answer{"", api.ErrArg}
		}
		m.corrupt(s.n, s.at, s.data)
		return answer{}
	}
	if m.down {
		return answer{"", api.ErrDown}
	}
	switch s.call {
	case "Read":
		if !there {
			return answer{"", api.ErrArg}
		}
		m.reads++
		return answer{m.has(s.n), api.OK}
	case "Write":
		if !there || len(s.data) != size {
			return answer{"", api.ErrArg}
		}
		m.writes = append(m.writes, modelWrite{s.n, []byte(s.data)})
		if m.counts() {
			return answer{"", api.ErrDown}
		}
	case "Flush":
		return answer{"", m.flush()}
	case "Plan":
		if s.at < 0 {
			return answer{"", api.ErrArg}
		}
		m.at, m.plan = s.at, s.crash
	case "Pull":
		m.fall(s.crash)
	}
	return answer{}
}

// chance gives the same numbers at each run.
type chance uint64

func (c *chance) next() uint64 {
	*c ^= *c << 13
	*c ^= *c >> 7
	*c ^= *c << 17
	return uint64(*c)
}

func (c *chance) below(n int) int { return int(c.next() >> 8 % uint64(n)) }

// text is n bytes, of each 16 all alike.
func (c *chance) text(n int) string {
	b := make([]byte, n)
	for i := range b {
		if i%16 == 0 {
			b[i] = byte(c.next() >> 24)
		} else {
			b[i] = b[i-1]
		}
	}
	return string(b)
}

// crash is one of a device that has about so many unflushed writes: numbers that there are, in any order, and some that there are not or that are there twice.
func (c *chance) crash(count int) blockdev.Crash {
	x := blockdev.Crash{Torn: c.below(count+4) - 2, Mask: uint8(c.next() >> 16)}
	for range c.below(count + 2) {
		x.Keep = append(x.Keep, c.below(count+4)-2)
	}
	if c.below(4) == 0 {
		x.Keep = append(x.Keep, math.MaxInt, math.MinInt, 1<<32)
	}
	if c.below(4) == 0 {
		x.Torn = []int{-1, math.MaxInt, math.MinInt, 1 << 32}[c.below(4)]
	}
	return x
}

// block is a block's number, of few of them often, so that they are written again; now and then it is none.
func (c *chance) block(blocks int) int {
	if c.below(20) == 0 {
		return []int{-1, blocks, math.MaxInt, math.MinInt}[c.below(4)]
	}
	if c.below(3) == 0 {
		return c.below(blocks)
	}
	return c.below(4)
}

// step is any one for a device of so many blocks of that size, with about so many unflushed writes.
func (c *chance) step(blocks, size, count int) step {
	s := step{n: c.block(blocks)}
	switch k := c.below(40); {
	case k < 18:
		s.call, s.data = "Write", c.text(size)
		if c.below(15) == 0 {
			s.data = c.text(c.below(2 * size))
		}
	case k < 24:
		s.call = "Read"
	case k < 27:
		s.call = "Flush"
	case k < 30:
		s.call, s.at, s.crash = "Plan", c.below(14)-2, c.crash(count+5)
	case k < 32:
		s.call, s.crash = "Pull", c.crash(count)
	case k < 36:
		s.call = "Restart"
	default:
		s.call, s.at = "Corrupt", c.below(size+3)-1
		s.data = c.text(c.below(size - min(max(s.at, 0), size) + 2))
	}
	return s
}

// wantSame fails if the device is in another state than the model.
func wantSame(t *testing.T, what string, d *blockdev.Device, m *model) {
	t.Helper()
	if d.Down() != m.down || d.Calls() != m.calls || d.Reads() != m.reads || d.Unflushed() != len(m.writes) {
		t.Fatalf("%s: Down %v, Calls %d, Reads %d, Unflushed %d; want %v, %d, %d, %d", what, d.Down(), d.Calls(), d.Reads(), d.Unflushed(), m.down, m.calls, m.reads, len(m.writes))
	}
	wantImage(t, what, d, m.image())
	if d.Blocks() != m.blocks || d.Size() != m.sectors*512 {
		t.Fatalf("%s: Blocks %d, Size %d", what, d.Blocks(), d.Size())
	}
}

// wantImage fails if the blocks have other things.
func wantImage(t *testing.T, what string, d *blockdev.Device, want []string) {
	t.Helper()
	got := d.Image()
	if len(got) != len(want) {
		t.Fatalf("%s: an image of %d blocks, want %d", what, len(got), len(want))
	}
	for n := range want {
		if got[n] != want[n] {
			t.Fatalf("%s: the block %d has %s, want %s", what, n, brief(got[n]), brief(want[n]))
		}
	}
}

// brief tells a text by its pieces of like bytes.
func brief(text string) string {
	var b strings.Builder
	for i := 0; i < len(text); {
		k := i
		for k < len(text) && text[k] == text[i] {
			k++
		}
		b.WriteString(" " + hex(text[i]) + "*" + hex(byte((k-i)>>8)) + hex(byte(k-i)))
		i = k
	}
	return b.String()
}

func hex(b byte) string { return string("0123456789abcdef"[b>>4]) + string("0123456789abcdef"[b&15]) }

// made is a device of so many blocks of so many sectors.
func made(t *testing.T, blocks, sectors int) *blockdev.Device {
	t.Helper()
	d, e := blockdev.New(blockdev.Geometry{Blocks: blocks, Sectors: sectors})
	if d == nil || e != api.OK {
		t.Fatalf("New of %d blocks of %d sectors: %v, %v", blocks, sectors, d, e)
	}
	return d
}

// of is a block of so many sectors, one for each letter.
func of(letters string) string {
	var b strings.Builder
	for i := range len(letters) {
		c := letters[i]
		if c == '0' {
			c = 0
		}
		b.WriteString(strings.Repeat(string([]byte{c}), 512))
	}
	return b.String()
}

// wantErr fails if the error is another one.
func wantErr(t *testing.T, what string, got, want api.Errno) {
	t.Helper()
	if got != want {
		t.Fatalf("%s: %v, want %v", what, got, want)
	}
}

// wantRead fails if a block has another text.
func wantRead(t *testing.T, d *blockdev.Device, n int, want string) {
	t.Helper()
	if got, e := d.Read(n); got != want || e != api.OK {
		t.Fatalf("Read(%d): %s, %v; want %s", n, brief(got), e, brief(want))
	}
}

// wantNoRead fails if Read answers anything but that error.
func wantNoRead(t *testing.T, d *blockdev.Device, n int, want api.Errno) {
	t.Helper()
	if got, e := d.Read(n); got != "" || e != want {
		t.Fatalf("Read(%d): %s, %v; want %v", n, brief(got), e, want)
	}
}

// writes writes a block and fails if it is refused.
func writes(t *testing.T, d *blockdev.Device, n int, data string) {
	t.Helper()
	wantErr(t, "Write", d.Write(n, data), api.OK)
}

// pulls takes the device down and up again.
func pulls(t *testing.T, d *blockdev.Device, c blockdev.Crash) {
	t.Helper()
	wantErr(t, "Pull", d.Pull(c), api.OK)
	wantErr(t, "Restart", d.Restart(), api.OK)
}

// none is a crash of which nothing survives that is not safe.
func none() blockdev.Crash { return blockdev.Crash{Torn: -1} }
