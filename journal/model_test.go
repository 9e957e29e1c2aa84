package journal_test

import (
	"encoding/binary"
	"hash/crc32"
	"slices"
	"strings"
	"testing"

	"wattle/api"
	"wattle/blockdev"
	"wattle/journal"
)

// The plain model: the chapter's words about what stands in the region, told with the library's numbers and checksums; each call tells which counted calls it makes of the device.

// op is a counted call: a block that is written, or a flush.
type op struct {
	block int
	text  string
}

var flush = op{block: -1}

type model struct {
	blocks, size, start, length int
	has                         []string
	own, number                 uint64
	at, tail, used              int
}

// newModel is that of a device, in whatever state it is.
func newModel(d *blockdev.Device, start, length int) *model {
	return &model{blocks: d.Blocks(), size: d.Size(), start: start, length: length, has: d.Image()}
}

func (m *model) ring() int { return m.length - 2 }

// place is the block of a place of the ring.
func (m *model) place(i int) int { return m.start + 2 + i%m.ring() }

func (m *model) most() int {
	n := 0
	for n+2 < m.ring() && 4+8+4+4*(n+1)+4 <= m.size {
		n++
	}
	return n
}

// did is what the ops make of what the blocks have.
func (m *model) did(ops []op) []op {
	for _, o := range ops {
		if o != flush {
			m.has[o.block] = o.text
		}
	}
	return ops
}

func (m *model) format() []op {
	var ops []op
	for i := range m.length {
		ops = append(ops, op{m.start + i, pad("", m.size)})
	}
	return m.did(append(ops, flush, op{m.start, modelHead(1, 0, 1, m.size)}, flush))
}

func (m *model) checkpoint() []op {
	if m.used == 0 {
		return nil
	}
	m.own, m.at, m.tail, m.used = m.own+1, 1-m.at, (m.tail+m.used)%m.ring(), 0
	return m.did([]op{flush, {m.start + m.at, modelHead(m.own, m.tail, m.number, m.size)}, flush})
}

func (m *model) commit(l []journal.Write) []op {
	if len(l) == 0 {
		return nil
	}
	var ops []op
	if m.ring()-m.used < len(l)+2 {
		ops = m.checkpoint()
	}
	for i, text := range modelTransaction(m.number, l, m.size) {
		if i == len(l)+1 {
			ops = append(ops, flush)
		}
		ops = append(ops, op{m.place(m.tail + m.used + i), text})
	}
	ops = append(ops, flush)
	for _, w := range l {
		ops = append(ops, op{w.Block, w.Data})
	}
	m.used += len(l) + 2
	m.number++
	return m.did(ops)
}

// open is what Open does with what the blocks have, and how many transactions it does again.
func (m *model) open() (ops []op, again int, e api.Errno) {
	if !m.heads() {
		return nil, 0, api.ErrCorrupt
	}
	m.used = 0
	for {
		l, there, corrupt := m.next()
		if corrupt {
			return ops, 0, api.ErrCorrupt
		}
		if !there {
			break
		}
		for _, w := range l {
			ops = append(ops, m.did([]op{{w.Block, w.Data}})...)
		}
		m.used += len(l) + 2
		m.number++
		again++
	}
	return append(ops, m.checkpoint()...), again, api.OK
}

// heads finds the head, and takes on what it tells.
func (m *model) heads() bool {
	found := false
	for at := range 2 {
		b := []byte(m.has[m.start+at])
		own, tail, number := binary.BigEndian.Uint64(b[4:]), binary.BigEndian.Uint32(b[12:]), binary.BigEndian.Uint64(b[16:])
		if string(b) != modelHead(own, int(tail), number, m.size) || int(tail) >= m.ring() || found && own <= m.own {
			continue
		}
		found, m.own, m.at, m.tail, m.number = true, own, at, int(tail), number
	}
	return found
}

// next is the transaction that stands behind what is used.
func (m *model) next() (l []journal.Write, there, corrupt bool) {
	at := m.tail + m.used
	first := m.has[m.place(at)]
	if first[:12] != "WJD1"+eight(m.number) {
		return nil, false, false
	}
	n := int(binary.BigEndian.Uint32([]byte(first[12:])))
	if n < 1 || n > m.most() || m.used+n+2 > m.ring() || first != pad(first[:16+4*n]+sum(first[:16+4*n]), m.size) {
		return nil, false, false
	}
	texts := first
	for i := range n {
		data := m.has[m.place(at+1+i)]
		texts += data
		v := binary.BigEndian.Uint32([]byte(first[16+4*i:]))
		w := journal.Write{Block: int(v % (1 << 31)), Data: data}
		if v >= 1<<31 {
			w.Data = "WJ" + data[2:]
		} else if data[:2] == "WJ" {
			return nil, false, false
		}
		if w.Block >= m.blocks || w.Block >= m.start && w.Block < m.start+m.length {
			return nil, false, false
		}
		if slices.ContainsFunc(l, func(x journal.Write) bool { return x.Block == w.Block }) {
			return nil, false, false
		}
		l = append(l, w)
	}
	last := m.has[m.place(at+1+n)]
	if last[:12] != "WJC1"+eight(m.number) {
		return nil, false, false
	}
	return l, true, last[:512] != pad("WJC1"+eight(m.number)+sum(texts), 512)
}

func modelHead(own uint64, tail int, number uint64, size int) string {
	text := "WJH1" + eight(own) + four(uint32(tail)) + eight(number)
	return pad(text+sum(text), size)
}

// modelDescriptor is one that tells blocks as they are handed in, with their highest bits.
func modelDescriptor(number uint64, blocks []uint32, size int) string {
	text := "WJD1" + eight(number) + four(uint32(len(blocks)))
	for _, b := range blocks {
		text += four(b)
	}
	return pad(text+sum(text), size)
}

func modelRecord(number uint64, texts []string, size int) string {
	return pad("WJC1"+eight(number)+sum(strings.Join(texts, "")), size)
}

// modelTransaction are the blocks of one in the ring.
func modelTransaction(number uint64, l []journal.Write, size int) []string {
	var blocks []uint32
	texts := []string{""}
	for _, w := range l {
		b, data := uint32(w.Block), w.Data
		if data[0] == 'W' && data[1] == 'J' {
			b, data = b+1<<31, "\x00\x00"+data[2:]
		}
		blocks, texts = append(blocks, b), append(texts, data)
	}
	texts[0] = modelDescriptor(number, blocks, size)
	return append(texts, modelRecord(number, texts, size))
}

func eight(v uint64) string { return string(binary.BigEndian.AppendUint64(nil, v)) }

func four(v uint32) string { return string(binary.BigEndian.AppendUint32(nil, v)) }

func sum(text string) string {
	return four(crc32.Checksum([]byte(text), crc32.MakeTable(crc32.Castagnoli)))
}

// pad is a text with bytes 0 behind it.
func pad(text string, size int) string { return text + strings.Repeat("\x00", size-len(text)) }

// do makes the counted calls of a device, up to the one at which it goes down.
func do(d *blockdev.Device, ops []op) api.Errno {
	for _, o := range ops {
		e := api.OK
		if o == flush {
			e = d.Flush()
		} else {
			e = d.Write(o.block, o.text)
		}
		if e != api.OK {
			return e
		}
	}
	return api.OK
}

// pending is how many writes are not flushed when a device goes down at the k-th of the ops, at whose beginning there were so many.
func pending(unflushed int, ops []op, k int) int {
	for i, o := range ops[:k] {
		if o != flush {
			unflushed++
		} else if i < k-1 {
			unflushed = 0
		}
	}
	return unflushed
}

// made is a device of so many blocks of so many sectors, each with other bytes.
func made(t *testing.T, blocks, sectors int) *blockdev.Device {
	t.Helper()
	d, e := blockdev.New(blockdev.Geometry{Blocks: blocks, Sectors: sectors})
	wantErr(t, "New", e, api.OK)
	for n := range blocks {
		wantErr(t, "Write", d.Write(n, of(string([]byte{'!', byte(n), byte(n >> 8)}), d.Size())), api.OK)
	}
	wantErr(t, "Flush", d.Flush(), api.OK)
	return d
}

// of is a block that begins with a text, each of whose sectors is unlike the others and unlike those of another text.
func of(text string, size int) string {
	var b strings.Builder
	for i := range size / 512 {
		b.WriteString(text + strings.Repeat(string([]byte{'a' + byte(i)}), 512-2*len(text)) + text)
	}
	return b.String()
}

// formatted is a device that has an empty journal.
func formatted(t *testing.T, blocks, sectors, start, length int) (*blockdev.Device, *journal.Journal) {
	t.Helper()
	d := made(t, blocks, sectors)
	wantErr(t, "Format", journal.Format(d, start, length), api.OK)
	return d, opened(t, d, start, length, 0)
}

// opened is the journal, which must be there and do so many transactions again.
func opened(t *testing.T, d *blockdev.Device, start, length, want int) *journal.Journal {
	t.Helper()
	j, again, e := journal.Open(d, start, length)
	if j == nil || again != want || e != api.OK {
		t.Fatalf("Open(%d, %d): %v, %d, %v; want %d", start, length, j != nil, again, e, want)
	}
	return j
}

// wantNoOpen fails if Open answers anything but that error.
func wantNoOpen(t *testing.T, d *blockdev.Device, start, length int, want api.Errno) {
	t.Helper()
	if j, again, e := journal.Open(d, start, length); j != nil || again != 0 || e != want {
		t.Fatalf("Open(%d, %d): %v, %d, %v; want %v", start, length, j != nil, again, e, want)
	}
}

// wantErr fails if the error is another one.
func wantErr(t *testing.T, what string, got, want api.Errno) {
	t.Helper()
	if got != want {
		t.Fatalf("%s: %v, want %v", what, got, want)
	}
}

// wantTold fails if the journal tells other numbers.
func wantTold(t *testing.T, what string, j *journal.Journal, used int, number uint64) {
	t.Helper()
	if j.Used() != used || j.Number() != number {
		t.Fatalf("%s: Used %d, Number %d; want %d, %d", what, j.Used(), j.Number(), used, number)
	}
}

// wantRead fails if a block has another text.
func wantRead(t *testing.T, d *blockdev.Device, n int, want string) {
	t.Helper()
	if got, e := d.Read(n); got != want || e != api.OK {
		t.Fatalf("Read(%d): %.30q, %v; want %.30q", n, got, e, want)
	}
}

// wantImage fails if the blocks have other texts.
func wantImage(t *testing.T, what string, got, want []string) {
	t.Helper()
	if len(got) != len(want) {
		t.Fatalf("%s: %d blocks, want %d", what, len(got), len(want))
	}
	for n := range want {
		if got[n] != want[n] {
			t.Fatalf("%s: the block %d has %.40q, want %.40q", what, n, got[n], want[n])
		}
	}
}

// restart brings a device up.
func restart(t *testing.T, d *blockdev.Device) {
	t.Helper()
	wantErr(t, "Restart", d.Restart(), api.OK)
}

// chance gives the same numbers at each run.
type chance uint64

func (c *chance) next() uint64 {
	*c ^= *c << 13
	*c ^= *c >> 7
	*c ^= *c << 17
	return uint64(*c)
}

func (c *chance) below(n int) int { return int(c.next() >> 8 % uint64(n)) }
