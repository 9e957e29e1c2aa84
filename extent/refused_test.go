package extent_test

import (
	"math"
	"testing"

	"wattle/api"
	"wattle/extent"
)

// odd are numbers that no block has.
func odd() []int {
	return []int{-1, -8, math.MinInt, math.MinInt + 1, math.MaxInt, math.MaxInt - 1, 1 << 32, 1<<32 + 4, 1 << 62, -1 << 62}
}

// The table of errors: New and FromBits of no map; the sizes are looked at ahead of the bits.
func TestNoMap(t *testing.T) {
	sizes := []struct{ from, blocks int }{{1, 0}, {2, 1}, {-1, 0}, {-1, 8}, {0, -1}, {0, 4097}, {4097, 4097}, {4096, 4095}, {4097, 4096}, {-2, -1}, {-1, -2}}
	for _, n := range odd() {
		sizes = append(sizes, struct{ from, blocks int }{n, 8})
		sizes = append(sizes, struct{ from, blocks int }{0, n})
		sizes = append(sizes, struct{ from, blocks int }{n, n})
	}
	for _, size := range sizes {
		if m, e := extent.New(size.from, size.blocks); m != nil || e != api.ErrArg {
			t.Errorf("New(%d, %d): %v, error %d", size.from, size.blocks, m, e)
		}
		for _, s := range []string{"", "\x00", "\xff", "\xff\xff\xff"} {
			if m, e := extent.FromBits(size.from, size.blocks, s); m != nil || e != api.ErrArg {
				t.Errorf("FromBits(%d, %d, %x): %v, error %d", size.from, size.blocks, s, m, e)
			}
		}
	}
}

// noExtents are none of a map of the blocks from 4 to 19.
func noExtents() []api.Extent {
	l := []api.Extent{{}, {Start: 4}, {Start: 19}, {Start: 20}, {Start: 3, Len: 1}, {Start: 3, Len: 2}, {Start: 0, Len: 5}, {Start: 19, Len: 2}, {Start: 20, Len: 1}, {Start: 4, Len: 17}, {Start: 0, Len: 20}, {Start: 5, Len: -1}, {Start: 20, Len: -1}, {Start: 21, Len: -1}, {Start: 24, Len: -10}}
	for _, n := range odd() {
		l = append(l, api.Extent{Start: n, Len: 1}, api.Extent{Start: 5, Len: n}, api.Extent{Start: n, Len: n}, api.Extent{Start: n, Len: math.MaxInt}, api.Extent{Start: n, Len: math.MinInt})
	}
	return append(l, api.Extent{Start: math.MaxInt, Len: math.MaxInt - 3}, api.Extent{Start: 10, Len: math.MaxInt - 5}, api.Extent{Start: -1, Len: 7})
}

// The table of errors: extents that are none of the map, in and out of a transaction, and nothing changes by them.
func TestNoExtent(t *testing.T) {
	b := begun(t, 4, 20)
	for round := range 4 {
		for _, x := range noExtents() {
			wantErr(t, "Take", b.m.Take(x), api.ErrArg)
			wantErr(t, "Free", b.m.Free(x), api.ErrArg)
		}
		b.same()
		if round == 1 {
			b.begin()
		}
		b.alloc(5)
		b.free(api.Extent{Start: 5, Len: 1})
	}
}

// The table of errors: Alloc of no number of blocks, and of more than there are in a row.
func TestNoAlloc(t *testing.T) {
	b := begun(t, 4, 20)
	b.take(api.Extent{Start: 10, Len: 1})
	for _, n := range append([]int{0, -3}, odd()...) {
		want := api.ErrArg
		if n > 0 {
			want = api.ErrFull
		}
		if x, e := b.m.Alloc(n); x != (api.Extent{}) || e != want {
			t.Errorf("Alloc(%d): %v, error %d, not %d", n, x, e, want)
		}
	}
	b.alloc(10)
	b.same()
	b.alloc(9)
	b.same()
}

// The table of errors: a block that is not free can't be taken, one that is not taken can't be given back: also not twice, nor while it is leaving.
func TestNotTwice(t *testing.T) {
	b := begun(t, 4, 20)
	x, _ := b.alloc(6)
	for _, open := range []bool{false, true} {
		if open {
			b.begin()
		}
		wantErr(t, "Take", b.m.Take(x), api.ErrThere)
		wantErr(t, "Take of one of it", b.m.Take(api.Extent{Start: 9, Len: 2}), api.ErrThere)
		wantErr(t, "Free", b.m.Free(api.Extent{Start: 9, Len: 2}), api.ErrArg)
		b.free(x)
		wantErr(t, "Free again", b.m.Free(x), api.ErrArg)
		for n := 4; n < 10; n++ {
			wantErr(t, "Free again", b.m.Free(api.Extent{Start: n, Len: 1}), api.ErrArg)
		}
		b.same()
		b.take(x)
		b.same()
	}
}

// R1, P6.3: a nil map.
func TestNil(t *testing.T) {
	var m *extent.Map
	for _, n := range append([]int{0, 1}, odd()...) {
		if x, e := m.Alloc(n); x != (api.Extent{}) || e != api.ErrNil {
			t.Errorf("Alloc: %v, error %d", x, e)
		}
		if m.Taken(n) {
			t.Error("Taken")
		}
	}
	for _, x := range append(noExtents(), api.Extent{Start: 4, Len: 1}) {
		wantErr(t, "Take", m.Take(x), api.ErrNil)
		wantErr(t, "Free", m.Free(x), api.ErrNil)
	}
	wantErr(t, "Begin", m.Begin(), api.ErrNil)
	wantErr(t, "Commit", m.Commit(), api.ErrNil)
	wantErr(t, "Abort", m.Abort(), api.ErrNil)
	if m.Open() || len(m.Spaces()) != 0 || m.Room() != 0 || m.Bits() != "" || m.Twin() != nil {
		t.Error("a nil map tells something")
	}
}

// R1: a map that was made otherwise: every call ends, and none panics.
func TestMadeOtherwise(t *testing.T) {
	copied := *made(t, 1, 9)
	copied.Begin()
	for _, m := range []*extent.Map{{}, &copied} {
		for range 2 {
			for _, x := range append(noExtents(), api.Extent{Start: 1, Len: 1}, api.Extent{Start: 0, Len: 1}) {
				m.Take(x)
				m.Free(x)
				m.Alloc(x.Len)
				m.Taken(x.Start)
			}
			m.Begin()
			m.Spaces()
			m.Bits()
			m.Twin().Abort()
			m.Abort()
			m.Begin()
			m.Commit()
			m.Room()
			m.Open()
		}
	}
}
