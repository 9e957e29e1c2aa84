package extent_test

import (
	"slices"
	"testing"

	"wattle/api"
)

// P6.1 to P6.5: whatever is called, in whatever order, the map is as the model's.
func TestAnything(t *testing.T) {
	c := chance(6)
	for range 60 {
		blocks := c.below(40)
		b := begun(t, c.below(blocks+1), blocks)
		for range 150 {
			b.anything(&c)
			if c.below(60) == 0 {
				twin := b.twin()
				twin.anything(&c)
				b.same()
				b.anything(&c)
				twin.same()
			}
		}
	}
}

// P6.4: no two extents that are held have a block in common, free, taken and leaving are together all, and Alloc is refused just if all spaces are shorter.
func TestNeverTwice(t *testing.T) {
	c := chance(64)
	for range 40 {
		const from, blocks = 5, 77
		m := made(t, from, blocks)
		holder := map[int]int{} // of a block, the extent that has it
		var held []api.Extent
		left, open := 0, false
		for step := range 200 {
			switch c.below(5) {
			case 0, 1, 2:
				n := 1 + c.below(12)
				longest := 0
				for _, space := range m.Spaces() {
					longest = max(longest, space.Len)
				}
				x, e := m.Alloc(n)
				if (e == api.ErrFull) != (longest < n) || (e == api.OK) != (longest >= n) {
					t.Fatalf("Alloc(%d): error %d, the longest space is %d", n, e, longest)
				}
				if e != api.OK {
					break
				}
				for i := range x.Len {
					if _, there := holder[x.Start+i]; there || x.Start+i < from || x.Start+i >= blocks {
						t.Fatalf("%v has the block %d, which is another's", x, x.Start+i)
					}
					holder[x.Start+i] = step
				}
				held = append(held, x)
			case 3:
				if len(held) == 0 {
					break
				}
				i := c.below(len(held))
				x := held[i]
				held = slices.Delete(held, i, i+1)
				wantErr(t, "Free", m.Free(x), api.OK)
				if !open {
					for i := range x.Len {
						delete(holder, x.Start+i)
					}
				} else {
					left += x.Len
				}
			default:
				if !open {
					wantErr(t, "Begin", m.Begin(), api.OK)
					open = true
					break
				}
				wantErr(t, "Commit", m.Commit(), api.OK)
				open, left = false, 0
				holder = map[int]int{}
				for _, x := range held {
					for i := range x.Len {
						holder[x.Start+i] = step
					}
				}
			}
			taken := 0
			for _, x := range held {
				taken += x.Len
			}
			if m.Room()+taken+left != blocks-from {
				t.Fatalf("%d free, %d taken, %d leaving", m.Room(), taken, left)
			}
		}
	}
}

// P6.5: behind Abort all is as at Begin; behind Commit what was given back is free, and not ahead of it.
func TestUndone(t *testing.T) {
	c := chance(65)
	for range 80 {
		b := begun(t, c.below(10), 10+c.below(60))
		for range 40 {
			b.anything(&c)
		}
		if b.m.Open() {
			b.commit()
		}
		bits, spaces, room := b.m.Bits(), b.m.Spaces(), b.m.Room()
		b.begin()
		at := b.m.Twin()
		for range 40 {
			x := api.Extent{Start: c.below(70), Len: 1 + c.below(4)}
			switch c.below(3) {
			case 0:
				if x, e := b.alloc(x.Len); e == api.OK {
					for i := range x.Len {
						if at.Taken(x.Start + i) {
							t.Fatalf("%v was taken at Begin", x)
						}
					}
				}
			case 1:
				b.take(x)
			default:
				b.free(x)
			}
		}
		done := b.twin()
		b.abort()
		b.same()
		if b.m.Bits() != bits || !slices.Equal(b.m.Spaces(), spaces) || b.m.Room() != room {
			t.Fatal("not as at Begin")
		}
		ahead := done.m.Bits()
		done.commit()
		done.same()
		if done.m.Bits() != ahead {
			t.Fatal("Commit has changed what is taken")
		}
	}
}

// P6.6: FromBits of Bits has the same spaces where nothing is leaving, and the same bits always; where something was, it is free.
func TestBitsOfBits(t *testing.T) {
	c := chance(66)
	for range 300 {
		blocks := c.below(70)
		b := begun(t, c.below(blocks+1), blocks)
		for range 30 {
			b.anything(&c)
		}
		again := ofBits(t, b.w.from, blocks, b.m.Bits())
		if again.Bits() != b.m.Bits() || again.Open() {
			t.Fatal("other bits, or a transaction is open")
		}
		if b.m.Open() {
			b.commit()
		}
		wantSpaces(t, again, b.m.Spaces()...)
		wantSame(t, again, b.w)
	}
}

// P6.6: what was taken, given back in whatever order, whole or in parts, leaves the map as it was.
func TestAllGivenBack(t *testing.T) {
	c := chance(67)
	for round := range 100 {
		b := begun(t, c.below(5), 40+c.below(24))
		for range 3 {
			b.take(api.Extent{Start: c.below(64), Len: 1 + c.below(5)})
		}
		bits, spaces := b.m.Bits(), b.m.Spaces()
		var parts []api.Extent
		for range 20 {
			if x, e := b.alloc(1 + c.below(6)); e == api.OK {
				k := c.below(x.Len)
				if k > 0 {
					parts = append(parts, api.Extent{Start: x.Start, Len: k})
				}
				parts = append(parts, api.Extent{Start: x.Start + k, Len: x.Len - k})
			}
		}
		if round%2 == 0 {
			b.begin()
		}
		for len(parts) > 0 {
			i := c.below(len(parts))
			b.free(parts[i])
			parts = slices.Delete(parts, i, i+1)
		}
		if round%2 == 0 {
			b.commit()
		}
		b.same()
		if b.m.Bits() != bits || !slices.Equal(b.m.Spaces(), spaces) {
			t.Fatalf("%x %v, not %x %v", b.m.Bits(), b.m.Spaces(), bits, spaces)
		}
	}
}

// R3: what is handed out is the caller's: changing it, and its spare room, changes nothing.
func TestHandedOut(t *testing.T) {
	b := begun(t, 0, 20)
	b.take(api.Extent{Start: 3, Len: 2})
	b.take(api.Extent{Start: 9, Len: 1})
	l, other := b.m.Spaces(), b.m.Spaces()
	for i := range l[:cap(l)] {
		l[:cap(l)][i] = api.Extent{Start: 77, Len: 77}
	}
	if !slices.Equal(other, b.w.spaces()) {
		t.Fatalf("another answer shows it: %v", other)
	}
	b.same()
}

// R2: maps do not see one another, also those of the same bits.
func TestApart(t *testing.T) {
	c := chance(2)
	one, two := begun(t, 1, 30), begun(t, 1, 30)
	for range 300 {
		one.anything(&c)
		two.same()
		two.anything(&c)
		one.same()
	}
	s := one.m.Bits()
	a, b := ofBits(t, 1, 30, s), ofBits(t, 1, 30, s)
	a.Alloc(2)
	a.Free(api.Extent{Start: 1, Len: 1})
	if b.Bits() != s {
		t.Error("a map of the same bits has changed")
	}
}
