package blockdev_test

import (
	"math"
	"strings"
	"testing"

	"wattle/api"
	"wattle/blockdev"
)

// The chapter's examples, row by row.
func TestExamples(t *testing.T) {
	a, b := of("aa"), of("bb")
	d := made(t, 16, 2)
	wantErr(t, "Write(3, A)", d.Write(3, a), api.OK)
	wantErr(t, "Write(16, A)", d.Write(16, a), api.ErrArg)
	wantErr(t, "Write(3, a)", d.Write(3, "a"), api.ErrArg)
	wantRead(t, d, 3, a)
	if n := d.Unflushed(); n != 1 {
		t.Errorf("Unflushed %d", n)
	}
	wantErr(t, "Pull", d.Pull(blockdev.Crash{Torn: 0, Mask: 2}), api.OK)
	wantNoRead(t, d, 3, api.ErrDown)
	wantErr(t, "Write(3, A)", d.Write(3, a), api.ErrDown)
	wantErr(t, "Restart", d.Restart(), api.OK)
	wantRead(t, d, 3, of("0a"))
	wantErr(t, "Restart", d.Restart(), api.ErrDone)
	writes(t, d, 3, a)
	wantErr(t, "Flush", d.Flush(), api.OK)
	writes(t, d, 3, b)
	writes(t, d, 4, b)
	pulls(t, d, blockdev.Crash{Keep: []int{1}, Torn: -1})
	wantRead(t, d, 3, a)
	wantRead(t, d, 4, b)
	wantErr(t, "Plan", d.Plan(2, blockdev.Crash{Keep: []int{0}, Torn: -1}), api.OK)
	wantErr(t, "Write(5, A)", d.Write(5, a), api.OK)
	wantErr(t, "Write(6, A)", d.Write(6, a), api.ErrDown)
	wantErr(t, "Restart", d.Restart(), api.OK)
	wantRead(t, d, 5, a)
	wantRead(t, d, 6, of("00"))
}

// P4.1, Limits: what is a geometry, and what is none.
func TestGeometry(t *testing.T) {
	for _, blocks := range []int{math.MinInt, -16, -1, 0, 1, 15, 16, 17, 600, 4095, 4096, 4097, 8192, 1<<32 + 16, math.MaxInt} {
		for _, sectors := range []int{math.MinInt, -1, 0, 1, 2, 7, 8, 9, 512, 1<<32 + 1, math.MaxInt} {
			g := blockdev.Geometry{Blocks: blocks, Sectors: sectors}
			if blocks < 16 || blocks > 4096 || sectors < 1 || sectors > 8 {
				wantErr(t, "Check", g.Check(), api.ErrArg)
				if d, e := blockdev.New(g); d != nil || e != api.ErrArg {
					t.Errorf("New of %d blocks of %d sectors: %v, %v", blocks, sectors, d, e)
				}
				continue
			}
			wantErr(t, "Check", g.Check(), api.OK)
			wantNew(t, blocks, sectors)
		}
	}
}

// wantNew fails if a new device is not up, all noughts, uncounted.
func wantNew(t *testing.T, blocks, sectors int) {
	t.Helper()
	d := made(t, blocks, sectors)
	if d.Blocks() != blocks || d.Size() != 512*sectors {
		t.Errorf("Blocks %d, Size %d; want %d, %d", d.Blocks(), d.Size(), blocks, 512*sectors)
	}
	if d.Down() || d.Calls() != 0 || d.Reads() != 0 || d.Unflushed() != 0 {
		t.Errorf("a new device: Down %v, Calls %d, Reads %d, Unflushed %d", d.Down(), d.Calls(), d.Reads(), d.Unflushed())
	}
	noughts := strings.Repeat("\x00", 512*sectors)
	l := d.Image()
	if len(l) != blocks {
		t.Fatalf("an image of %d blocks, want %d", len(l), blocks)
	}
	for _, text := range l {
		if text != noughts {
			t.Fatalf("a new block has %s", brief(text))
		}
	}
	wantRead(t, d, 0, noughts)
	wantRead(t, d, blocks-1, noughts)
	wantNoRead(t, d, blocks, api.ErrArg)
	wantNoRead(t, d, -1, api.ErrArg)
}

// P4.1: each block has what was written to it last, at the edges of the geometries, flushed or not.
func TestReadWriteFlush(t *testing.T) {
	c := chance(3)
	for _, g := range []blockdev.Geometry{{Blocks: 16, Sectors: 1}, {Blocks: 16, Sectors: 8}, {Blocks: 4096, Sectors: 1}, {Blocks: 4096, Sectors: 8}} {
		d := made(t, g.Blocks, g.Sectors)
		want := d.Image()
		for round := range 3 {
			for n := round; n < g.Blocks; n += 3 - round {
				want[n] = c.text(d.Size())
				writes(t, d, n, want[n])
			}
			wantImage(t, "written", d, want)
			for _, n := range []int{0, 1, g.Blocks / 2, g.Blocks - 1} {
				wantRead(t, d, n, want[n])
			}
			wantErr(t, "Flush", d.Flush(), api.OK)
			wantImage(t, "flushed", d, want)
			if d.Unflushed() != 0 {
				t.Fatalf("behind Flush: Unflushed %d", d.Unflushed())
			}
		}
		pulls(t, d, none())
		wantImage(t, "behind a crash", d, want)
	}
}

// P4.1: a block is written again and again, ahead of a flush and behind it.
func TestWrittenAgain(t *testing.T) {
	d := made(t, 16, 1)
	for _, letters := range []string{"a", "b", "0", "a", "a"} {
		writes(t, d, 7, of(letters))
		wantRead(t, d, 7, of(letters))
	}
	wantErr(t, "Flush", d.Flush(), api.OK)
	wantRead(t, d, 7, of("a"))
	writes(t, d, 7, of("c"))
	wantRead(t, d, 7, of("c"))
	wantRead(t, d, 6, of("0"))
	wantRead(t, d, 8, of("0"))
}

// The table of errors: blocks that there are not, and data that have not the size, of a device that is up; nothing changes, nothing is counted.
func TestRefused(t *testing.T) {
	for _, sectors := range []int{1, 2, 8} {
		d := made(t, 16, sectors)
		text := strings.Repeat("x", d.Size())
		writes(t, d, 5, text)
		want := d.Image()
		for _, n := range []int{-1, 16, 17, 1 << 32, math.MinInt, math.MaxInt} {
			wantNoRead(t, d, n, api.ErrArg)
			wantErr(t, "Write", d.Write(n, text), api.ErrArg)
			wantErr(t, "Write of too little", d.Write(n, ""), api.ErrArg)
			wantErr(t, "Corrupt", d.Corrupt(n, 0, "a"), api.ErrArg)
			wantErr(t, "Corrupt by nothing", d.Corrupt(n, 0, ""), api.ErrArg)
		}
		for _, k := range []int{0, 1, 511, d.Size() - 1, d.Size() + 1, d.Size() + 512, 2 * d.Size()} {
			wantErr(t, "Write", d.Write(5, strings.Repeat("y", k)), api.ErrArg)
		}
		for _, at := range []int{-1, -512, math.MinInt, math.MinInt32} {
			wantErr(t, "Plan", d.Plan(at, none()), api.ErrArg)
		}
		wantErr(t, "Restart", d.Restart(), api.ErrDone)
		wantImage(t, "behind refused calls", d, want)
		if d.Calls() != 1 || d.Reads() != 0 || d.Unflushed() != 1 || d.Down() {
			t.Errorf("Calls %d, Reads %d, Unflushed %d, Down %v", d.Calls(), d.Reads(), d.Unflushed(), d.Down())
		}
	}
}

// The table of errors: a device that is down says so ahead of all else; Corrupt does not ask.
func TestRefusedWhileDown(t *testing.T) {
	d := made(t, 16, 2)
	writes(t, d, 3, of("ab"))
	wantErr(t, "Pull", d.Pull(blockdev.Crash{Keep: []int{0}, Torn: -1}), api.OK)
	want := d.Image()
	for _, n := range []int{0, 3, 15, -1, 16, math.MinInt, math.MaxInt} {
		wantNoRead(t, d, n, api.ErrDown)
		wantErr(t, "Write", d.Write(n, of("cc")), api.ErrDown)
		wantErr(t, "Write of too little", d.Write(n, "c"), api.ErrDown)
	}
	for range 3 {
		wantErr(t, "Flush", d.Flush(), api.ErrDown)
		wantErr(t, "Pull", d.Pull(none()), api.ErrDown)
		for _, at := range []int{0, 1, -1, math.MinInt} {
			wantErr(t, "Plan", d.Plan(at, none()), api.ErrDown)
		}
	}
	wantErr(t, "Corrupt", d.Corrupt(16, 0, "x"), api.ErrArg)
	wantErr(t, "Corrupt", d.Corrupt(0, 1024, "x"), api.ErrArg)
	if d.Calls() != 1 || d.Reads() != 0 || d.Unflushed() != 0 || !d.Down() {
		t.Errorf("Calls %d, Reads %d, Unflushed %d, Down %v", d.Calls(), d.Reads(), d.Unflushed(), d.Down())
	}
	wantImage(t, "while it is down", d, want)
	wantErr(t, "Restart", d.Restart(), api.OK)
	wantImage(t, "behind Restart", d, want)
}

// R1, the table of errors: nil devices, whatever else is wrong.
func TestNil(t *testing.T) {
	var d *blockdev.Device
	for _, n := range []int{0, 3, -1, 16, math.MinInt, math.MaxInt} {
		wantNoRead(t, d, n, api.ErrNil)
		for _, data := range []string{"", "a", of("a")} {
			wantErr(t, "Write", d.Write(n, data), api.ErrNil)
			wantErr(t, "Corrupt", d.Corrupt(n, n, data), api.ErrNil)
		}
		wantErr(t, "Plan", d.Plan(n, blockdev.Crash{Keep: []int{n}, Torn: n, Mask: 255}), api.ErrNil)
		wantErr(t, "Pull", d.Pull(blockdev.Crash{Keep: []int{n}, Torn: n, Mask: 255}), api.ErrNil)
	}
	wantErr(t, "Flush", d.Flush(), api.ErrNil)
	wantErr(t, "Restart", d.Restart(), api.ErrNil)
	if !d.Down() {
		t.Errorf("no device is up")
	}
	if d.Blocks() != 0 || d.Size() != 0 || d.Calls() != 0 || d.Reads() != 0 || d.Unflushed() != 0 {
		t.Errorf("no device: Blocks %d, Size %d, Calls %d, Reads %d, Unflushed %d", d.Blocks(), d.Size(), d.Calls(), d.Reads(), d.Unflushed())
	}
	if l := d.Image(); len(l) != 0 {
		t.Errorf("no device: an image of %d blocks", len(l))
	}
	if d.Twin() != nil {
		t.Errorf("no device has a twin")
	}
}

// R1: devices that New has not made do not panic, nor do copies of one that it has.
func TestMadeOtherwise(t *testing.T) {
	c := chance(5)
	for range 100 {
		zero := new(blockdev.Device)
		d := made(t, 16, 1)
		l := []*blockdev.Device{zero, zero.Twin(), d}
		for i := range 150 {
			if i%50 == 20 {
				copied := *d
				l = append(l, &copied)
			}
			x := l[c.below(len(l))]
			do(x, c.step(16, 512, x.Unflushed()))
			x.Image()
			x.Twin()
		}
	}
}

// P4.1 to P4.4: any calls, one behind the other, answer what the model answers.
func TestAsTheModel(t *testing.T) {
	c := chance(7)
	for i := range 60 {
		g := []blockdev.Geometry{{Blocks: 16, Sectors: 1}, {Blocks: 16, Sectors: 2}, {Blocks: 17, Sectors: 3}, {Blocks: 20, Sectors: 8}}[i%4]
		d, m := made(t, g.Blocks, g.Sectors), newModel(g.Blocks, g.Sectors)
		for range 300 {
			s := c.step(g.Blocks, d.Size(), d.Unflushed())
			want := m.do(s)
			if got := do(d, s); got != want {
				t.Fatalf("%s: %s, %v; want %s, %v", s.call, brief(got.text), got.e, brief(want.text), want.e)
			}
			wantSame(t, s.call, d, m)
		}
	}
}
