package blockdev_test

import (
	"slices"
	"testing"

	"wattle/api"
	"wattle/blockdev"
)

// P4.4: Calls counts the Writes and Flushes that are not refused, with the ones that it goes down at; Reads the reads that were answered; Unflushed the writes behind the last Flush.
func TestCounts(t *testing.T) {
	d := made(t, 16, 1)
	want := func(what string, calls, reads, unflushed int) {
		t.Helper()
		if d.Calls() != calls || d.Reads() != reads || d.Unflushed() != unflushed {
			t.Fatalf("%s: Calls %d, Reads %d, Unflushed %d; want %d, %d, %d", what, d.Calls(), d.Reads(), d.Unflushed(), calls, reads, unflushed)
		}
	}
	writes(t, d, 0, of("a"))
	writes(t, d, 0, of("a"))
	writes(t, d, 1, of("a"))
	want("three writes", 3, 0, 3)
	wantRead(t, d, 0, of("a"))
	wantRead(t, d, 9, of("0"))
	wantNoRead(t, d, 16, api.ErrArg)
	d.Image()
	d.Twin().Read(0)
	want("two reads", 3, 2, 3)
	wantErr(t, "Flush", d.Flush(), api.OK)
	wantErr(t, "Flush", d.Flush(), api.OK)
	want("two flushes", 5, 2, 0)
	wantErr(t, "Plan", d.Plan(2, none()), api.OK)
	writes(t, d, 0, of("b"))
	want("a write", 6, 2, 1)
	wantErr(t, "Write", d.Write(0, of("b")), api.ErrDown)
	want("down", 7, 2, 0)
	wantErr(t, "Write", d.Write(0, of("b")), api.ErrDown)
	wantErr(t, "Flush", d.Flush(), api.ErrDown)
	wantNoRead(t, d, 0, api.ErrDown)
	want("refused", 7, 2, 0)
	wantErr(t, "Restart", d.Restart(), api.OK)
	want("up again", 7, 2, 0)
	writes(t, d, 0, of("c"))
	wantErr(t, "Pull", d.Pull(none()), api.OK)
	want("pulled", 8, 2, 0)
}

// P4.4, R3: an image is the caller's: neither the device nor another image shows what is written to it, or behind its end.
func TestImageIsTheCallers(t *testing.T) {
	d := made(t, 16, 1)
	writes(t, d, 3, of("a"))
	first, next := d.Image(), d.Image()
	clear(first)
	for i := range first[:cap(first)] {
		first[:cap(first)][i] = "x"
	}
	if next[3] != of("a") || next[4] != of("0") || len(next) != 16 {
		t.Fatalf("another image has %s", brief(next[3]))
	}
	wantImage(t, "the device", d, next)
}

// P4.4: while it is down the image is what it will have behind Restart.
func TestImageWhileDown(t *testing.T) {
	c := chance(9)
	for range 100 {
		d := made(t, 16, 2)
		for range 10 {
			writes(t, d, c.below(4), c.text(1024))
		}
		wantErr(t, "Pull", d.Pull(c.crash(10)), api.OK)
		down := d.Image()
		wantErr(t, "Restart", d.Restart(), api.OK)
		wantImage(t, "up again", d, down)
		for n, text := range down {
			wantRead(t, d, n, text)
		}
	}
}

// P4.5: what was flushed, and not written since, is there behind any crash; all is there behind one that keeps all.
func TestSafe(t *testing.T) {
	c := chance(11)
	d := made(t, 20, 3)
	for range 300 {
		for range c.below(8) {
			writes(t, d, c.below(20), c.text(1536))
		}
		wantErr(t, "Flush", d.Flush(), api.OK)
		want := d.Image()
		count := c.below(8)
		var all []int
		for i := range count {
			writes(t, d, 10+c.below(10), c.text(1536)) // of the other blocks nothing is written
			all = append([]int{i}, all...)
		}
		written := d.Image()
		if c.below(2) == 0 {
			pulls(t, d, blockdev.Crash{Keep: all, Torn: -1})
			wantImage(t, "with all kept", d, written)
			continue
		}
		pulls(t, d, c.crash(count))
		wantImage(t, "what was flushed", d, append(want[:10], d.Image()[10:]...))
	}
}

// P4.6: behind any crash each sector is the one that was flushed, or an unflushed write's, at the same place of the same block; at most one block is neither wholly.
func TestNothingElse(t *testing.T) {
	c := chance(13)
	d := made(t, 16, 4)
	for range 400 {
		had := make([][]string, 16)
		for n, text := range d.Image() {
			had[n] = []string{text}
		}
		count := c.below(12)
		for range count {
			n, text := c.below(5), c.text(2048)
			had[n] = append(had[n], text)
			writes(t, d, n, text)
		}
		pulls(t, d, c.crash(count))
		mixed := 0
		for n, text := range d.Image() {
			if !slices.Contains(had[n], text) {
				mixed++
			}
			for at := 0; at < 2048; at += 512 {
				if !slices.ContainsFunc(had[n], func(x string) bool { return x[at:at+512] == text[at:at+512] }) {
					t.Fatalf("the block %d has %s", n, brief(text))
				}
			}
		}
		if mixed > 1 {
			t.Fatalf("%d blocks have parts of writes", mixed)
		}
	}
}

// wantAlike fails if two devices tell different things.
func wantAlike(t *testing.T, what string, a, b *blockdev.Device) {
	t.Helper()
	if a.Down() != b.Down() || a.Calls() != b.Calls() || a.Reads() != b.Reads() || a.Unflushed() != b.Unflushed() || a.Blocks() != b.Blocks() || a.Size() != b.Size() {
		t.Fatalf("%s: twins are unlike: Down %v, %v, Calls %d, %d, Reads %d, %d, Unflushed %d, %d", what, a.Down(), b.Down(), a.Calls(), b.Calls(), a.Reads(), b.Reads(), a.Unflushed(), b.Unflushed())
	}
	wantImage(t, what, a, b.Image())
}

// P4.4, P4.7: a twin, made in any state, answers alike when the same is done to it.
func TestTwinsAlike(t *testing.T) {
	c := chance(15)
	for range 60 {
		a := made(t, 16, 2)
		for range c.below(60) {
			do(a, c.step(16, 1024, a.Unflushed()))
		}
		b := a.Twin()
		wantAlike(t, "at first", a, b)
		for range 60 {
			s := c.step(16, 1024, a.Unflushed())
			if x, y := do(a, s), do(b, s); x != y {
				t.Fatalf("%s: %v, %v", s.call, x.e, y.e)
			}
			wantAlike(t, s.call, a, b)
		}
	}
}

// P4.7: what is done to the one is not seen by the other, nor by a twin's twin.
func TestTwinsApart(t *testing.T) {
	c := chance(17)
	for range 40 {
		a := made(t, 16, 2)
		m := newModel(16, 2)
		for range c.below(60) {
			s := c.step(16, 1024, a.Unflushed())
			do(a, s)
			m.do(s)
		}
		b := a.Twin()
		for range 60 {
			do(b, c.step(16, 1024, b.Unflushed()))
			do(b.Twin(), c.step(16, 1024, b.Unflushed()))
			wantSame(t, "the one to which nothing was done", a, m)
		}
		for range 60 { // and the one that was twinned goes on by itself
			s := c.step(16, 1024, a.Unflushed())
			still := b.Image()
			if x, y := do(a, s), m.do(s); x != y {
				t.Fatalf("%s: %v, want %v", s.call, x.e, y.e)
			}
			wantSame(t, s.call, a, m)
			wantImage(t, "the other one", b, still)
		}
	}
}

// P4.4: a twin has the plan, which each has by itself, and which one of them takes back for itself alone.
func TestTwinsPlan(t *testing.T) {
	a := made(t, 16, 1)
	writes(t, a, 0, of("a"))
	wantErr(t, "Plan", a.Plan(3, blockdev.Crash{Keep: []int{0, 2}, Torn: -1}), api.OK)
	writes(t, a, 1, of("b"))
	b, c := a.Twin(), a.Twin()
	wantErr(t, "Plan", c.Plan(0, none()), api.OK)
	for _, d := range []*blockdev.Device{b, a} {
		writes(t, d, 2, of("c"))
		wantErr(t, "Flush", d.Flush(), api.ErrDown)
		wantErr(t, "Restart", d.Restart(), api.OK)
		for n, letters := range []string{"a", "0", "c"} {
			wantRead(t, d, n, of(letters))
		}
	}
	writes(t, c, 2, of("c"))
	wantErr(t, "Flush", c.Flush(), api.OK)
	if down := a.Twin(); down.Down() {
		t.Errorf("the twin of a device that is up is down")
	}
	wantErr(t, "Pull", a.Pull(none()), api.OK)
	down := a.Twin()
	if !down.Down() {
		t.Errorf("the twin of a device that is down is up")
	}
	wantErr(t, "Restart", down.Restart(), api.OK)
	if !a.Down() {
		t.Errorf("a device came up by its twin's Restart")
	}
}

// R2: devices do not see one another.
func TestDevicesApart(t *testing.T) {
	c := chance(19)
	a, b := made(t, 16, 1), made(t, 16, 1)
	m := newModel(16, 1)
	for range 500 {
		do(a, c.step(16, 512, a.Unflushed()))
		wantSame(t, "the other one", b, m)
	}
}
