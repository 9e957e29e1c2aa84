package extent_test

import (
	"strings"
	"testing"

	"wattle/api"
	"wattle/extent"
)

// P6.3: the bits of maps of all sizes about whole bytes, from all first blocks: those below are 1, what is free is 0, the filling is 0.
func TestBits(t *testing.T) {
	for blocks := range 26 {
		for from := range blocks + 1 {
			b := begun(t, from, blocks)
			for n := from; n < blocks; n += 3 {
				b.take(api.Extent{Start: n, Len: 1})
			}
			b.same()
			b.begin()
			for n := from; n < blocks; n += 6 {
				b.free(api.Extent{Start: n, Len: 1})
			}
			b.same()
		}
	}
}

// P6.3: Taken is of the map's blocks alone, for any number.
func TestTaken(t *testing.T) {
	m := made(t, 3, 12)
	wantErr(t, "Take", m.Take(api.Extent{Start: 3, Len: 9}), api.OK)
	wantErr(t, "Begin", m.Begin(), api.OK)
	wantErr(t, "Free", m.Free(api.Extent{Start: 5, Len: 2}), api.OK)
	for n := 3; n < 12; n++ {
		if !m.Taken(n) {
			t.Errorf("%d is not taken", n)
		}
	}
	for _, n := range append([]int{0, 1, 2, 12, 13, 15, 16, 4095, 4096}, odd()...) {
		if m.Taken(n) {
			t.Errorf("%d is taken", n)
		}
	}
	wantErr(t, "Commit", m.Commit(), api.OK)
	if m.Taken(5) || m.Taken(6) || !m.Taken(4) || !m.Taken(7) {
		t.Error("what left is taken, or what stayed is not")
	}
}

// P6.3: any bits with 1 below the first block and a filling of 0 are a map's; of one byte, all texts are tried for all maps.
func TestFromBits(t *testing.T) {
	for blocks := range 9 {
		for from := range blocks + 1 {
			for v := range 256 {
				s := string([]byte{byte(v)})
				if blocks == 0 {
					s = ""
				}
				b := both{t, nil, newModel(from, blocks)}
				for n := from; n < blocks; n++ {
					if v>>(7-n)&1 == 1 {
						b.w.take(api.Extent{Start: n, Len: 1})
					}
				}
				m, e := extent.FromBits(from, blocks, s)
				if b.w.bits() != s {
					if m != nil || e != api.ErrForm {
						t.Fatalf("FromBits(%d, %d, %x): %v, error %d", from, blocks, s, m, e)
					}
					continue
				}
				if b.m = m; e != api.OK {
					t.Fatalf("FromBits(%d, %d, %x): error %d", from, blocks, s, e)
				}
				b.same()
				b.commit()
				b.alloc(2)
				b.begin()
				b.free(api.Extent{Start: from, Len: 1})
				b.same()
			}
		}
	}
}

// P6.3: bits that are too short or too long, whose bits below the first block are not all 1, or whose filling is not 0, are no map's.
func TestNoBits(t *testing.T) {
	for _, row := range []struct {
		from, blocks int
		s            string
	}{
		{0, 0, "\x00"}, {0, 0, "\x80"}, {0, 1, ""}, {0, 8, ""}, {0, 8, "\x00\x00"}, {8, 8, "\xff\x00"}, {0, 9, "\x00"}, {0, 9, "\x00\x00\x00"},
		{2, 10, "\xff"}, {2, 10, "\xff\xc0\x00"}, {2, 10, ""}, {2, 10, "\x7f\xc0"}, {2, 10, "\xbf\xc0"}, {2, 10, "\x3f\xc0"}, {2, 10, "\xff\xc1"}, {2, 10, "\xff\xe0"}, {2, 10, "\xff\x20"},
		{9, 9, "\xff\x00"}, {9, 9, "\xff\xc0"}, {9, 9, "\x7f\x80"}, {9, 9, "\xfe\x80"}, {9, 10, "\xff\x40"}, {10, 11, "\xff\x80"}, {10, 11, "\xff\x60"},
		{0, 4096, strings.Repeat("\x00", 511)}, {0, 4096, strings.Repeat("\x00", 513)}, {4096, 4096, strings.Repeat("\xff", 511) + "\xfe"}, {4095, 4096, strings.Repeat("\xff", 511) + "\xfd"},
		{0, 4095, strings.Repeat("\xff", 512)}, {0, 5, strings.Repeat("\xff", 1<<20)},
	} {
		if m, e := extent.FromBits(row.from, row.blocks, row.s); m != nil || e != api.ErrForm {
			t.Errorf("FromBits(%d, %d, %.8x) of %d bytes: %v, error %d", row.from, row.blocks, row.s, len(row.s), m, e)
		}
	}
	for _, row := range []struct {
		from, blocks int
		s            string
	}{
		{0, 0, ""}, {8, 8, "\xff"}, {9, 9, "\xff\x80"}, {2, 10, "\xff\xc0"}, {2, 10, "\xc0\x00"}, {10, 11, "\xff\xc0"}, {10, 11, "\xff\xe0"},
		{4096, 4096, strings.Repeat("\xff", 512)}, {0, 4096, strings.Repeat("\x00", 512)}, {0, 4095, strings.Repeat("\xff", 511) + "\xfe"},
	} {
		if got := ofBits(t, row.from, row.blocks, row.s).Bits(); got != row.s {
			t.Errorf("bits %.8x, not %.8x", got, row.s)
		}
	}
}
