package extent_test

import (
	"testing"

	"wattle/api"
	"wattle/extent"
)

// The chapter's Examples, row by row.
func TestExamples(t *testing.T) {
	m := made(t, 2, 10)
	alloc := func(n int, want api.Extent, f api.Errno) {
		t.Helper()
		if x, e := m.Alloc(n); x != want || e != f {
			t.Errorf("Alloc(%d): %v, error %d, not %v, error %d", n, x, e, want, f)
		}
	}
	alloc(3, api.Extent{Start: 2, Len: 3}, api.OK)
	alloc(4, api.Extent{Start: 5, Len: 4}, api.OK)
	alloc(2, api.Extent{}, api.ErrFull)
	alloc(1, api.Extent{Start: 9, Len: 1}, api.OK)
	wantErr(t, "Free", m.Free(api.Extent{Start: 3, Len: 1}), api.OK)
	wantErr(t, "Free again", m.Free(api.Extent{Start: 3, Len: 1}), api.ErrArg)
	wantErr(t, "Free of a block below", m.Free(api.Extent{Start: 1, Len: 2}), api.ErrArg)
	wantSpaces(t, m, api.Extent{Start: 3, Len: 1})
	wantErr(t, "Begin", m.Begin(), api.OK)
	wantErr(t, "Free", m.Free(api.Extent{Start: 5, Len: 4}), api.OK)
	alloc(2, api.Extent{}, api.ErrFull)
	alloc(1, api.Extent{Start: 3, Len: 1}, api.OK)
	if m.Room() != 0 {
		t.Errorf("room %d", m.Room())
	}
	wantErr(t, "Abort", m.Abort(), api.OK)
	wantSpaces(t, m, api.Extent{Start: 3, Len: 1})
	if m.Bits() != "\xef\xc0" {
		t.Errorf("bits %x", m.Bits())
	}
	wantErr(t, "Take", m.Take(api.Extent{Start: 3, Len: 1}), api.OK)
	wantErr(t, "Take again", m.Take(api.Extent{Start: 3, Len: 1}), api.ErrThere)
	if m, e := extent.FromBits(2, 10, "\x3f\x00"); m != nil || e != api.ErrForm {
		t.Errorf("FromBits: %v, error %d", m, e)
	}
}

// P6.1: a new map is all free and has no transaction, whatever its first block and its blocks.
func TestNew(t *testing.T) {
	for blocks := range 35 {
		for from := range blocks + 1 {
			begun(t, from, blocks)
		}
	}
	for _, from := range []int{0, 1, 7, 8, 2048, 4095, 4096} {
		begun(t, from, api.MaxBlocks)
		begun(t, min(from, 4095), 4095)
	}
}

// P6.1: Alloc takes the least start that has so many free blocks in a row, also within a greater space, and up to the last block.
func TestAlloc(t *testing.T) {
	b := begun(t, 3, 21)
	for _, x := range []api.Extent{{Start: 5, Len: 2}, {Start: 10, Len: 1}, {Start: 15, Len: 2}} { // spaces of 2, 3, 4 and 4
		b.take(x)
	}
	for _, n := range []int{4, 1, 3, 1, 4, 1, 1} {
		b.alloc(n)
		b.same()
	}
	if b.m.Room() != 0 {
		t.Fatalf("room %d", b.m.Room())
	}
	b.alloc(1)
}

// P6.1: a map of one block, of as many as there may be, and one without a block.
func TestEdgesOfAlloc(t *testing.T) {
	for _, size := range []struct{ from, blocks int }{{0, 1}, {8, 9}, {0, 4096}, {1, 4096}, {4095, 4096}, {0, 8}, {0, 7}, {0, 0}, {5, 5}, {4096, 4096}} {
		b := begun(t, size.from, size.blocks)
		all := size.blocks - size.from
		b.alloc(all + 1)
		b.same()
		if x, e := b.alloc(all); all > 0 && (x != api.Extent{Start: size.from, Len: all} || e != api.OK) {
			t.Fatalf("all of %v: %v, error %d", size, x, e)
		}
		b.alloc(1)
		b.same()
		if all == 0 {
			continue
		}
		last := api.Extent{Start: size.blocks - 1, Len: 1}
		b.free(last)
		b.same()
		b.take(last)
		b.same()
		b.free(api.Extent{Start: size.from, Len: all})
		b.same()
	}
}

// P6.1: extents are taken by their places: at the front, at the end, in between; only what is free all through.
func TestTake(t *testing.T) {
	for start := range 12 {
		for length := range 12 {
			b := begun(t, 2, 10)
			b.take(api.Extent{Start: 4, Len: 2})
			b.take(api.Extent{Start: 9, Len: 1})
			b.take(api.Extent{Start: start, Len: length})
			b.same()
		}
	}
}

// P6.1: what was taken at once is given back whole and in parts; parts of two that touch may be given back at once.
func TestFree(t *testing.T) {
	for start := range 14 {
		for length := range 14 {
			b := begun(t, 1, 13)
			b.alloc(3)
			b.alloc(4)
			b.take(api.Extent{Start: 10, Len: 3})
			b.free(api.Extent{Start: start, Len: length})
			b.same()
			b.alloc(2)
			b.same()
		}
	}
}

// P6.1: in an open transaction what is given back is leaving, also what was taken in it: it is not given again, and can't be taken or given back.
func TestLeaving(t *testing.T) {
	b := begun(t, 0, 12)
	old, _ := b.alloc(4)
	b.begin()
	young, _ := b.alloc(4)
	b.free(api.Extent{Start: 1, Len: 2})
	b.same()
	b.free(young)
	b.same()
	for _, x := range []api.Extent{{Start: 1, Len: 1}, {Start: 2, Len: 1}, {Start: 0, Len: 2}, {Start: 2, Len: 2}, young, {Start: 7, Len: 1}, {Start: 7, Len: 2}} {
		wantErr(t, "Free", b.m.Free(x), api.ErrArg)
		wantErr(t, "Take", b.m.Take(x), api.ErrThere)
	}
	if x, e := b.alloc(1); x.Start != 8 || e != api.OK {
		t.Fatalf("%v, error %d", x, e)
	}
	b.alloc(4)
	b.free(api.Extent{Start: old.Start, Len: 1})
	b.same()
	b.commit()
	b.same()
	if x, e := b.alloc(3); x.Start != 0 || e != api.OK {
		t.Fatalf("%v, error %d", x, e)
	}
}
