package journal_test

import (
	"slices"
	"testing"

	"wattle/api"
	"wattle/blockdev"
	"wattle/journal"
)

// The chapter's examples, row by row.
func TestExamples(t *testing.T) {
	d, e := blockdev.New(blockdev.Geometry{Blocks: 16, Sectors: 1})
	wantErr(t, "New", e, api.OK)
	a, b := of("A", 512), of("B", 512)
	wantErr(t, "Format", journal.Format(d, 2, 6), api.OK)
	j := opened(t, d, 2, 6, 0)
	if j.Most() != 2 {
		t.Errorf("Most %d", j.Most())
	}
	wantErr(t, "Commit of two", j.Commit([]journal.Write{{8, a}, {9, b}}), api.OK)
	wantTold(t, "behind two", j, 4, 2)
	wantErr(t, "Commit of one", j.Commit([]journal.Write{{10, a}}), api.OK)
	wantTold(t, "behind a checkpoint", j, 3, 3)
	wantErr(t, "three blocks", j.Commit([]journal.Write{{8, a}, {9, a}, {10, a}}), api.ErrLog)
	wantErr(t, "the block 3", j.Commit([]journal.Write{{3, a}}), api.ErrArg)
	wantErr(t, "the block 8 twice", j.Commit([]journal.Write{{8, a}, {8, b}}), api.ErrArg)
	flushes := 2 // the second flush is the third counted call: a checkpoint's head is written between
	wantErr(t, "Plan", d.Plan(flushes+1, blockdev.Crash{Torn: -1}), api.OK)
	wantErr(t, "Commit that goes down", j.Commit([]journal.Write{{8, b}}), api.ErrDown)
	restart(t, d)
	j = opened(t, d, 2, 6, 1)
	wantTold(t, "done again", j, 0, 3)
	wantRead(t, d, 8, a)
	wantRead(t, d, 9, b)
	wantRead(t, d, 10, a)
}

// The least region is the chapter's.
func TestMinLen(t *testing.T) {
	if journal.MinLen != 6 {
		t.Errorf("MinLen %d", journal.MinLen)
	}
}

// P5.4: Most is two less than the ring, up to what a descriptor has room for.
func TestMost(t *testing.T) {
	for _, x := range []struct{ blocks, sectors, length, want int }{
		{16, 1, 6, 2}, {16, 1, 7, 3}, {16, 8, 6, 2}, {16, 1, 16, 12}, {300, 1, 126, 122}, {300, 1, 127, 123}, {300, 1, 128, 123}, {300, 1, 300, 123},
		{400, 2, 254, 250}, {400, 2, 255, 251}, {400, 2, 256, 251}, {4096, 8, 1022, 1018}, {4096, 8, 1023, 1019}, {4096, 8, 1024, 1019}, {4096, 8, 4096, 1019}, {4096, 1, 4096, 123},
	} {
		d, e := blockdev.New(blockdev.Geometry{Blocks: x.blocks, Sectors: x.sectors})
		wantErr(t, "New", e, api.OK)
		wantErr(t, "Format", journal.Format(d, 0, x.length), api.OK)
		j := opened(t, d, 0, x.length, 0)
		if got := j.Most(); got != x.want || got != newModel(d, 0, x.length).most() {
			t.Errorf("a region of %d blocks of %d sectors: Most %d, want %d", x.length, x.sectors, got, x.want)
		}
	}
}

// many are so many blocks' writes, from a block on.
func many(text string, size, from, count int) []journal.Write {
	var l []journal.Write
	for i := range count {
		l = append(l, journal.Write{Block: from + i, Data: of(text+string([]byte{byte(i >> 8), byte(i)}), size)})
	}
	return l
}

// P5.3 to P5.5: a transaction of Most blocks, where a descriptor has room for no more, is there wholly or not, and one more block is refused.
func TestMostBlocks(t *testing.T) {
	for _, x := range []struct{ blocks, sectors, length, most int }{{400, 1, 140, 123}, {700, 2, 255, 251}, {2200, 8, 1025, 1019}} {
		d, j := formatted(t, x.blocks, x.sectors, 0, x.length)
		size := d.Size()
		first, next := many("WJ", size, x.length, x.most), many("n", size, x.length, x.most)
		wantErr(t, "Commit", j.Commit(first), api.OK)
		wantTold(t, "behind Most", j, x.most+2, 2)
		wantErr(t, "one more", j.Commit(many("m", size, x.length, x.most+1)), api.ErrLog)
		for _, at := range []int{x.most, x.most + 2, x.most + 3, x.most + 4, x.most + 5, 2*x.most + 4} { // among the data, at the first flush, the record, the second flush, and among the blocks
			y := d.Twin()
			wantErr(t, "Pull", y.Pull(blockdev.Crash{Torn: -1}), api.OK)
			restart(t, y)
			again := opened(t, y, 0, x.length, 1)
			wantErr(t, "Plan", y.Plan(at, blockdev.Crash{Keep: []int{0}, Torn: -1}), api.OK) // at the record and behind it that is kept
			wantErr(t, "Commit", again.Commit(next), api.ErrDown)
			restart(t, y)
			want, there := first, 0
			if at >= x.most+3 {
				want, there = next, 1
			}
			opened(t, y, 0, x.length, there)
			for _, w := range want {
				wantRead(t, y, w.Block, w.Data)
			}
		}
	}
}

// P5.3, P5.4: a ring is gone round many times; Used, Number and each block are as the transactions have made them, and a journal that is opened anew goes on.
func TestRoundAndRound(t *testing.T) {
	for length := 6; length <= 12; length++ {
		d, j := formatted(t, 30, 1, 1, length)
		m := newOpened(t, d, 1, length)
		c := chance(47 + length)
		for i := range 200 {
			l := c.writes(m, 1+c.below(m.most()))
			m.commit(l)
			wantErr(t, "Commit", j.Commit(l), api.OK)
			wantTold(t, "Commit", j, m.used, uint64(i)+2)
			if c.below(20) == 0 {
				j = opened(t, d, 1, length, transactions(m))
				m.checkpoint()
			}
			if c.below(20) == 0 {
				wantErr(t, "Checkpoint", j.Checkpoint(), api.OK)
				m.checkpoint()
				wantTold(t, "Checkpoint", j, 0, uint64(i)+2)
			}
			wantImage(t, "round and round", d.Image(), m.has)
		}
	}
}

// transactions are how many stand in the ring.
func transactions(m *model) int {
	x := *m
	x.has = slices.Clone(m.has)
	_, again, _ := x.open()
	return again
}

// P5.3: a Commit goes on in the ring as long as there is room to the last place, and no longer.
func TestRoomToTheLastPlace(t *testing.T) {
	for room := 3; room <= 8; room++ {
		for n := 1; n <= 6; n++ {
			d, j := formatted(t, 30, 1, 2, 2+8)
			if used := 8 - room; used >= 3 {
				wantErr(t, "Commit", j.Commit(many("f", 512, 20, used-2)), api.OK)
			} else if used > 0 {
				continue
			}
			want := 8 - room + n + 2
			if n+2 > room {
				want = n + 2
			}
			wantErr(t, "Commit", j.Commit(many("n", 512, 20, n)), api.OK)
			if j.Used() != want {
				t.Errorf("%d blocks where %d places are free: Used %d, want %d", n, room, j.Used(), want)
			}
			if d.Down() {
				t.Errorf("the device is down")
			}
		}
	}
}

// P5.7: data that begin with WJ, and that look like whatever a journal writes, come to their blocks as they are, and are done again so.
func TestLikeness(t *testing.T) {
	size := 1024
	for _, data := range []string{
		"WJ" + pad("", size-2), of("WJ", size), of("WJWJ", size), modelHead(1, 0, 1, size), modelHead(9, 2, 1, size), modelDescriptor(1, []uint32{9}, size), modelDescriptor(2, []uint32{9}, size),
		modelRecord(1, nil, size), modelRecord(2, nil, size), "\x00\x00" + of("x", size)[2:], "\x00J" + of("x", size)[2:], "W\x00" + of("x", size)[2:], pad("", size),
	} {
		d, j := formatted(t, 16, 2, 2, 9)
		l := []journal.Write{{0, data}, {12, of("o", size)}}
		wantErr(t, "Commit", j.Commit(l), api.OK)
		wantErr(t, "Commit", j.Commit([]journal.Write{{13, data}}), api.OK)
		wantRead(t, d, 0, data)
		wantErr(t, "Pull", d.Pull(blockdev.Crash{Torn: -1}), api.OK)
		restart(t, d)
		opened(t, d, 2, 9, 2)
		wantRead(t, d, 0, data)
		wantRead(t, d, 12, l[1].Data)
		wantRead(t, d, 13, data)
		for n := 4; n < 11; n++ { // in the ring there is no mark but at descriptors and records
			text, e := d.Read(n)
			if mark := text[:2] == "WJ"; e != api.OK || mark != slices.Contains([]int{4, 7, 8, 10}, n) {
				t.Fatalf("the block %d of the ring begins with %q", n, text[:4])
			}
		}
	}
}

// R3: a list that is handed in is neither changed nor read beyond its end nor kept.
func TestListIsTheCallers(t *testing.T) {
	d, j := formatted(t, 16, 1, 2, 6)
	l := writes("WJ", 512, 8, 9, 3)
	had := slices.Clone(l)
	wantErr(t, "Commit", j.Commit(l[:2]), api.OK)
	if !slices.Equal(l, had) {
		t.Fatalf("the list was changed")
	}
	l[0], l[1] = journal.Write{Block: 10, Data: of("x", 512)}, journal.Write{}
	wantErr(t, "Pull", d.Pull(blockdev.Crash{Torn: -1}), api.OK)
	restart(t, d)
	opened(t, d, 2, 6, 1)
	wantRead(t, d, 8, had[0].Data)
	wantRead(t, d, 9, had[1].Data)
	wantRead(t, d, 10, made(t, 16, 1).Image()[10])
}

// R2: journals of two devices, and of two regions of one, do not see one another.
func TestJournalsApart(t *testing.T) {
	d, a := formatted(t, 24, 1, 0, 6)
	wantErr(t, "Format", journal.Format(d, 18, 6), api.OK)
	b := opened(t, d, 18, 6, 0)
	_, other := formatted(t, 24, 1, 0, 6)
	for i := range 5 {
		wantErr(t, "Commit", a.Commit(writes("a", 512, 8)), api.OK)
		wantTold(t, "the one", a, 3, uint64(i)+2)
		wantTold(t, "the other region's", b, 0, 1)
		wantTold(t, "the other device's", other, 0, 1)
	}
	wantErr(t, "Commit", b.Commit(writes("b", 512, 9, 10)), api.OK)
	wantErr(t, "Plan", d.Plan(1, blockdev.Crash{Torn: -1}), api.OK)
	wantErr(t, "Commit", a.Commit(writes("x", 512, 11)), api.ErrDown)
	restart(t, d)
	wantErr(t, "Commit", a.Commit(writes("x", 512, 11)), api.ErrState)
	wantErr(t, "a journal that has not answered ErrDown", b.Commit(nil), api.OK)
	wantTold(t, "the one", opened(t, d, 0, 6, 1), 0, 6)
	wantTold(t, "the other region's", opened(t, d, 18, 6, 1), 0, 2)
	wantRead(t, d, 8, writes("a", 512, 8)[0].Data)
	wantRead(t, d, 10, writes("b", 512, 9, 10)[1].Data)
}

// R2: what lies on the device is seen by all that work on it: of two journals of one region the later one goes on where the one ahead of it was.
func TestOpenedTwice(t *testing.T) {
	d, j := formatted(t, 16, 1, 2, 9)
	wantErr(t, "Commit", j.Commit(writes("a", 512, 12)), api.OK)
	next := opened(t, d, 2, 9, 1)
	wantTold(t, "the later one", next, 0, 2)
	wantErr(t, "Commit", next.Commit(writes("b", 512, 12)), api.OK)
	wantTold(t, "the one ahead", j, 3, 2)
	wantTold(t, "opened again", opened(t, d, 2, 9, 1), 0, 3)
}
