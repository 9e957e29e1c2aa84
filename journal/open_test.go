package journal_test

import (
	"math"
	"testing"

	"wattle/api"
	"wattle/blockdev"
	"wattle/journal"
)

// lay writes blocks, and flushes them.
func lay(t *testing.T, d *blockdev.Device, from int, texts ...string) {
	t.Helper()
	for i, text := range texts {
		wantErr(t, "Write", d.Write(from+i, text), api.OK)
	}
	wantErr(t, "Flush", d.Flush(), api.OK)
}

// turned is a text with other bytes at that place.
func turned(text string, at int, data string) string { return text[:at] + data + text[at+len(data):] }

// wantOpenAsModel fails if Open does other things than the model.
func wantOpenAsModel(t *testing.T, what string, d *blockdev.Device, start, length int) {
	t.Helper()
	m := newModel(d, start, length)
	ops, again, e := m.open()
	x := d.Twin()
	j, n, got := journal.Open(x, start, length)
	if got != e || e == api.OK && n != again || e != api.OK && (j != nil || n != 0) {
		t.Fatalf("%s: Open does %d again, %v; want %d, %v", what, n, got, again, e)
	}
	if x.Calls()-d.Calls() != len(ops) {
		t.Fatalf("%s: Open makes %d counted calls, want %d", what, x.Calls()-d.Calls(), len(ops))
	}
	wantImage(t, what, x.Image(), m.has)
	if e == api.OK {
		wantTold(t, what, j, 0, m.number)
	}
}

// P5.2: which of the two head blocks is the head, told by the transaction's number that it has: each pair of those that are one, and of those that are none.
func TestHeads(t *testing.T) {
	const places = 5
	size := 1024
	good := func(own uint64, tail int) string { return modelHead(own, tail, 100+own, size) }
	none := []string{
		pad("", size), of("x", size), turned(good(9, 0), 0, "wJH1"), turned(good(9, 0), 3, "2"), good(9, places), good(9, places+1), good(9, math.MaxUint32), good(9, 1<<31),
		turned(good(9, 0), 4, "\x01"), turned(good(9, 0), 11, "\x0a"), turned(good(9, 0), 15, "\x01"), turned(good(9, 0), 23, "\x00"), turned(good(9, 0), 24, "!!"), turned(good(9, 0), 27, "\x00\x01"),
		turned(good(9, 0), 28, "\x01"), turned(good(9, 0), 511, "\x01"), turned(good(9, 0), 512, "\x01"), turned(good(9, 0), size-1, "\x01"), modelDescriptor(9, nil, size), modelRecord(9, nil, size),
	}
	owns := []uint64{0, 1, 2, 255, 256, 1 << 32, 1<<63 - 1, 1 << 63, math.MaxUint64 - 100}
	d, _ := formatted(t, 16, 2, 2, places+2)
	for i, own := range owns {
		for k, other := range owns {
			lay(t, d, 2, good(own, i%places), good(other, k%places))
			wantTold(t, "two heads", opened(t, d, 2, places+2, 0), 0, 100+max(own, other))
			wantOpenAsModel(t, "two heads", d, 2, places+2)
		}
		for _, text := range none {
			lay(t, d, 2, text, good(own, places-1))
			wantTold(t, "the second one", opened(t, d, 2, places+2, 0), 0, 100+own)
			lay(t, d, 2, good(own, places-1), text)
			wantTold(t, "the first one", opened(t, d, 2, places+2, 0), 0, 100+own)
		}
	}
	for _, text := range none {
		for _, other := range none {
			lay(t, d, 2, text, other)
			image := d.Image()
			wantNoOpen(t, d, 2, places+2, api.ErrCorrupt)
			wantImage(t, "no heads", d.Image(), image)
		}
	}
}

// P5.2, R7: of two heads that are as good it is the first one.
func TestHeadsAlike(t *testing.T) {
	d, _ := formatted(t, 16, 1, 2, 6)
	lay(t, d, 2, modelHead(3, 1, 20, 512), modelHead(3, 2, 30, 512))
	j := opened(t, d, 2, 6, 0)
	wantTold(t, "two alike", j, 0, 20)
	wantErr(t, "Commit", j.Commit(writes("a", 512, 8)), api.OK)
	wantErr(t, "Checkpoint", j.Checkpoint(), api.OK)
	wantRead(t, d, 3, modelHead(4, 0, 21, 512))
	wantRead(t, d, 2, modelHead(3, 1, 20, 512))
}

// P5.2, P5.4: what is done again from one head's block goes to the other one; numbers have eight bytes.
func TestTheOtherHead(t *testing.T) {
	for at := range 2 {
		d, _ := formatted(t, 16, 1, 2, 9)
		l := writes("a", 512, 12, 1)
		own, number := uint64(0x0102030405060708), uint64(0x1112131415161718)
		lay(t, d, 2, pad("", 512), pad("", 512))
		lay(t, d, 2+at, modelHead(own, 5, number, 512))
		texts := modelTransaction(number, l, 512)
		lay(t, d, 4+5, texts[:2]...)
		lay(t, d, 4, texts[2:]...)
		j := opened(t, d, 2, 9, 1)
		wantTold(t, "done again", j, 0, number+1)
		wantRead(t, d, 2+at, modelHead(own, 5, number, 512))
		wantRead(t, d, 3-at, modelHead(own+1, 2, number+1, 512))
		wantRead(t, d, 12, l[0].Data)
		wantRead(t, d, 1, l[1].Data)
		wantErr(t, "Commit", j.Commit(writes("b", 512, 14)), api.OK)
		wantErr(t, "Checkpoint", j.Checkpoint(), api.OK)
		wantRead(t, d, 2+at, modelHead(own+2, 5, number+2, 512))
	}
}

// The ring of the next tests: three transactions of two blocks each fill it, from the place 5 on; the second one is the one that is changed.
const (
	ringStart  = 3
	ringLength = 14
	ringFirst  = 7 // the number of the first one
	ringSize   = 1024
)

// second are the second one's blocks, the first of them escaped, and its texts, told by the model as they are handed in.
func second(number uint64, blocks []uint32, datas ...string) []string {
	texts := append([]string{modelDescriptor(number, blocks, ringSize)}, datas...)
	return append(texts, modelRecord(number, texts, ringSize))
}

// ringed is a device with the ring, whose second transaction has these texts.
func ringed(t *testing.T, texts []string) *blockdev.Device {
	t.Helper()
	d := made(t, 24, 2)
	lay(t, d, ringStart, modelHead(2, 1, 3, ringSize), modelHead(3, 5, ringFirst, ringSize))
	all := modelTransaction(ringFirst, writes("one", ringSize, 20, 0), ringSize)
	all = append(append(all, texts...), modelTransaction(ringFirst+2, writes("three", ringSize, 22, 20), ringSize)...)
	for i, text := range all {
		lay(t, d, ringStart+2+(5+i)%12, text)
	}
	return d
}

// wantAgain fails if of the ring other transactions are done again than the first ones, or if another error comes.
func wantAgain(t *testing.T, what string, d *blockdev.Device, want int, e api.Errno, datas ...string) {
	t.Helper()
	wantOpenAsModel(t, what, d, ringStart, ringLength)
	image := d.Image()
	one, three := writes("one", ringSize, 20, 0), writes("three", ringSize, 22, 20)
	if want > 0 {
		image[20], image[0] = one[0].Data, one[1].Data
	}
	if want > 1 {
		image[21], image[1] = datas[0], datas[1]
	}
	if want > 2 {
		image[22], image[20] = three[0].Data, three[1].Data
	}
	if e != api.OK {
		wantNoOpen(t, d, ringStart, ringLength, e)
	} else {
		wantTold(t, what, opened(t, d, ringStart, ringLength, want), 0, ringFirst+uint64(want))
		if want > 0 {
			image[ringStart] = modelHead(4, (5+4*want)%12, ringFirst+uint64(want), ringSize)
		}
	}
	wantImage(t, what, d.Image(), image)
}

// P5.2: a ring that is full is done again whole; what is wrong in the second transaction, so that it is none, ends it ahead of that.
func TestNoTransaction(t *testing.T) {
	const n = ringFirst + 1
	blocks := []uint32{21 + 1<<31, 1}
	a, b := "\x00\x00"+of("a", ringSize)[2:], of("b", ringSize)
	good := second(n, blocks, a, b)
	wantAgain(t, "all three", ringed(t, good), 3, api.OK, "WJ"+a[2:], b)
	for _, at := range []int{0, 1, 2, 3, 4, 11, 12, 15, 16, 20, 23, 24, 27, 28, 511, 512, 1023} {
		texts := second(n, blocks, a, b)
		texts[0] = turned(texts[0], at, string([]byte{texts[0][at] ^ 1}))
		wantAgain(t, "a descriptor's byte turned", ringed(t, texts), 1, api.OK)
		texts[3] = modelRecord(n, texts[:3], ringSize)
		wantAgain(t, "so, with a record of that", ringed(t, texts), 1, api.OK)
	}
	for _, number := range []uint64{0, n - 1, n + 1, n + 1<<32, n + 1<<63} {
		wantAgain(t, "another number", ringed(t, second(number, blocks, a, b)), 1, api.OK)
		texts := second(n, blocks, a, b)
		texts[3] = modelRecord(number, texts[:3], ringSize)
		wantAgain(t, "a record of another number", ringed(t, texts), 1, api.OK)
	}
	for at := range 12 {
		texts := second(n, blocks, a, b)
		texts[3] = turned(texts[3], at, string([]byte{texts[3][at] ^ 128}))
		wantAgain(t, "a record that begins otherwise", ringed(t, texts), 1, api.OK)
	}
	for _, l := range [][]uint32{{21, 24}, {21, 1<<31 - 1}, {1<<31 + 24, 1}, {1<<32 - 1, 1}, {ringStart, 1}, {ringStart + ringLength - 1, 1}, {21, 21}, {1<<31 + 1, 1}, {1, 1<<31 + 1}} {
		wantAgain(t, "blocks that may not be written", ringed(t, second(n, l, a, b)), 1, api.OK)
		texts := second(n, l, a, b)
		texts[3] = turned(texts[3], 12, "none")
		wantAgain(t, "so, with another sum", ringed(t, texts), 1, api.OK)
	}
	wantAgain(t, "data that begin with WJ", ringed(t, second(n, []uint32{21, 1}, "WJ"+a[2:], b)), 1, api.OK)
	wantAgain(t, "data that begin with WJ", ringed(t, second(n, []uint32{21 + 1<<31, 1}, a, "WJ"+b[2:])), 1, api.OK)
}

// P5.2: counts that there may not be, with the right sums.
func TestNoCount(t *testing.T) {
	const n = ringFirst + 1
	a, b := of("a", ringSize), of("b", ringSize)
	for _, count := range []uint32{0, 4, 5, 9, 10, 11, 12, 13, 123, 250, 251, 252, 253, 254, 255, 1 << 16, 1 << 31, 1<<31 + 2, 1<<32 - 1} {
		good := modelDescriptor(n, []uint32{21, 1}, ringSize)
		for _, fields := range []int{2, int(min(count, 251))} {
			text := good[:12] + four(count)
			for i := range fields {
				text += four([]uint32{21, 1, 2, 18, 19, 22, 23}[i%7])
			}
			texts := []string{pad(text+sum(text), ringSize), a, b}
			d := ringed(t, append(texts, modelRecord(n, texts, ringSize)))
			wantAgain(t, "a count", d, 1, api.OK)
		}
	}
	d := ringed(t, append(second(n, []uint32{21}, a), b)) // no transaction stands right behind the one of one block
	wantOpenAsModel(t, "one block", d, ringStart, ringLength)
	wantTold(t, "one block", opened(t, d, ringStart, ringLength, 2), 0, n+1)
	wantRead(t, d, 21, a)
	three := second(n, []uint32{21, 1, 2}, a, b, a)
	wantAgain(t, "without the last one's places", ringed(t, three[:4]), 1, api.OK)
}

// P5.2: counts at and above what a descriptor has room for, in a ring that has places for more.
func TestCountAboveRoom(t *testing.T) {
	for _, count := range []uint32{122, 123, 124, 125, 126, 127, 128, 1 << 30, 1<<32 - 1} {
		d, _ := formatted(t, 400, 1, 0, 150)
		l := many("m", 512, 150, int(min(count, 128)))
		text := "WJD1" + eight(1) + four(count)
		for _, w := range l {
			text += four(uint32(w.Block))
		}
		texts := []string{pad(text+sum(text), 1024)[:512]}
		for _, w := range l {
			texts = append(texts, w.Data)
		}
		lay(t, d, 2, append(texts, modelRecord(1, texts, 512))...)
		want := 0
		if count <= 123 {
			want = 1
		}
		wantOpenAsModel(t, "a count", d, 0, 150)
		opened(t, d, 0, 150, want)
	}
}

// P5.2: data that are not WJ, and escaped data, whatever stands in the place of their first two bytes.
func TestEscapes(t *testing.T) {
	const n = ringFirst + 1
	a := of("a", ringSize)
	for _, two := range []string{"W\x00", "\x00J", "JW", "wj", "Wj", "\x00\x00"} {
		b := two + of("b", ringSize)[2:]
		wantAgain(t, "data near WJ", ringed(t, second(n, []uint32{1<<31 + 21, 1}, a, b)), 3, api.OK, "WJ"+a[2:], b)
	}
	for _, two := range []string{"WJ", "W\x00", "ab", "\xff\xff", "\x00\x00"} {
		b := two + "C1" + eight(n) + of("b", ringSize)[12:]
		d := ringed(t, second(n, []uint32{1<<31 + 21, 1<<31 + 1}, a, b))
		wantAgain(t, "escaped data", d, 3, api.OK, "WJ"+a[2:], "WJ"+b[2:])
		texts := second(n, []uint32{21, 1<<31 + 1}, a, "\x00\x00"+b[2:])
		texts[2] = b
		if two != "\x00\x00" {
			wantAgain(t, "a sum of other escaped data", ringed(t, texts), 1, api.ErrCorrupt)
		}
	}
}

// P5.2: a record that begins as it shall and is another one in its first sector: ErrCorrupt, and what was done ahead of it stays; its other sectors say nothing.
func TestRecords(t *testing.T) {
	const n = ringFirst + 1
	a, b := of("a", ringSize), of("b", ringSize)
	blocks := []uint32{21, 1}
	for _, at := range []int{12, 13, 15, 16, 17, 100, 511} {
		texts := second(n, blocks, a, b)
		texts[3] = turned(texts[3], at, string([]byte{texts[3][at] ^ 64}))
		wantAgain(t, "a record that is another one", ringed(t, texts), 1, api.ErrCorrupt)
	}
	for _, at := range []int{512, 513, 1000, 1023} {
		texts := second(n, blocks, a, b)
		texts[3] = turned(texts[3], at, "!")
		wantAgain(t, "a torn record", ringed(t, texts), 3, api.OK, a, b)
	}
	texts := second(n, blocks, a, b)
	texts[3] = texts[3][:512] + of("old", 512)
	wantAgain(t, "a torn record", ringed(t, texts), 3, api.OK, a, b)
	for i := 1; i < 3; i++ {
		for _, at := range []int{0, 1, 2, 511, 512, 1023} {
			texts := second(n, blocks, a, b)
			texts[i] = turned(texts[i], at, "!")
			wantAgain(t, "data that are other ones", ringed(t, texts), 1, api.ErrCorrupt)
		}
	}
}

// P5.2: a transaction that would go round to where the first one stands is none, though all of its blocks look as they shall.
func TestMoreThanTheRing(t *testing.T) {
	blocks := []uint32{20 + 1<<31, 0}
	first := []string{modelDescriptor(ringFirst, blocks, ringSize), "", of("b", ringSize), ""}
	last := []string{modelDescriptor(ringFirst+2, []uint32{22, 23, 19, 18 + 1<<31}, ringSize), of("c", ringSize), of("d", ringSize), of("e", ringSize)}
	first[1] = modelRecord(ringFirst+2, append(last, first[0]), ringSize)
	first[3] = modelRecord(ringFirst, first[:3], ringSize)
	d := made(t, 24, 2)
	lay(t, d, ringStart, modelHead(2, 1, 3, ringSize), modelHead(3, 5, ringFirst, ringSize))
	all := append(append(first, modelTransaction(ringFirst+1, writes("two", ringSize, 21, 1), ringSize)...), last...)
	for i, text := range all {
		lay(t, d, ringStart+2+(5+i)%12, text)
	}
	wantOpenAsModel(t, "more than the ring", d, ringStart, ringLength)
	image := d.Image()
	wantTold(t, "more than the ring", opened(t, d, ringStart, ringLength, 2), 0, ringFirst+2)
	wantRead(t, d, 20, "WJ"+first[1][2:])
	for _, block := range []int{22, 23, 19, 18} {
		wantRead(t, d, block, image[block])
	}
}

// P5.2: of a device that goes down and a record that is another one it is the first that is met.
func TestDownOrCorrupt(t *testing.T) {
	texts := second(ringFirst+1, []uint32{21, 1}, of("a", ringSize), of("b", ringSize))
	texts[3] = turned(texts[3], 15, "!!")
	for at, want := range []api.Errno{api.ErrCorrupt, api.ErrDown, api.ErrDown, api.ErrCorrupt, api.ErrCorrupt} {
		d := ringed(t, texts)
		wantErr(t, "Plan", d.Plan(at, blockdev.Crash{Torn: -1}), api.OK)
		wantNoOpen(t, d, ringStart, ringLength, want)
	}
}

// P5.2: any flaws at any places, in rings of any transactions, are told as the model tells them.
func TestAnyFlaws(t *testing.T) {
	c := chance(41)
	for range 3000 {
		d := made(t, 24, 1+c.below(2))
		length := 6 + c.below(9)
		start, own := c.below(24-length+1), c.next()>>1
		tail, number := c.below(length-2), c.next()>>1
		lay(t, d, start+c.below(2), modelHead(own, tail, number, d.Size()))
		m := newModel(d, start, length)
		for at := 0; at < length-2; number++ {
			texts := modelTransaction(number, c.writes(m, 1+c.below(3)), d.Size())
			if at+len(texts) > length-2 && c.below(4) > 0 {
				break
			}
			for _, text := range texts {
				lay(t, d, m.place(tail+at), text)
				at++
			}
		}
		for range c.below(3) {
			at := []int{c.below(d.Size()), c.below(28), c.below(17), 512 * c.below(2) % d.Size()}[c.below(4)]
			wantErr(t, "Corrupt", d.Corrupt(start+c.below(length), at, string([]byte{byte(c.below(256))})), api.OK)
		}
		wantOpenAsModel(t, "any flaws", d, start, length)
	}
}
