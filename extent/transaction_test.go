package extent_test

import (
	"testing"

	"wattle/api"
)

// P6.2: a transaction is open from Begin to Commit or Abort; only one can be open; with nothing between nothing changes.
func TestOpen(t *testing.T) {
	for _, size := range []int{0, 1, 13} {
		b := begun(t, 0, size)
		b.alloc(1)
		for range 3 {
			b.commit()
			b.abort()
			b.same()
			b.begin()
			b.same()
			b.begin()
			b.same()
			b.commit()
			b.same()
			b.commit()
			b.begin()
			b.abort()
			b.same()
			b.abort()
			b.same()
		}
	}
}

// P6.2: Commit frees all that is leaving, and that alone; what is given back behind it is free at once.
func TestCommit(t *testing.T) {
	b := begun(t, 2, 20)
	first, _ := b.alloc(5)
	second, _ := b.alloc(5)
	b.begin()
	b.free(first)
	b.free(api.Extent{Start: second.Start + 1, Len: 3})
	third, _ := b.alloc(6)
	b.same()
	b.commit()
	b.same()
	wantSpaces(t, b.m, api.Extent{Start: 2, Len: 5}, api.Extent{Start: 8, Len: 3}, api.Extent{Start: 18, Len: 2})
	b.free(third)
	b.same()
	b.alloc(8)
	b.same()
}

// P6.2: Abort makes each block what it was at Begin: what was given back is taken, what was taken is free.
func TestAbort(t *testing.T) {
	b := begun(t, 2, 20)
	first, _ := b.alloc(5)
	b.begin()
	b.free(first)
	b.alloc(3)
	b.take(api.Extent{Start: 17, Len: 3})
	b.free(api.Extent{Start: 18, Len: 1})
	b.same()
	b.abort()
	b.same()
	wantSpaces(t, b.m, api.Extent{Start: 7, Len: 13})
	b.free(first)
	b.same()
	wantSpaces(t, b.m, api.Extent{Start: 2, Len: 18})
}

// P6.2: an undoing goes back to the last Begin, not to one ahead of it, and Commit leaves nothing to be undone.
func TestTransactionsInARow(t *testing.T) {
	b := begun(t, 0, 16)
	b.begin()
	first, _ := b.alloc(4)
	b.commit()
	b.begin()
	b.alloc(4)
	b.free(first)
	b.abort()
	b.same()
	b.begin()
	b.free(api.Extent{Start: 1, Len: 2})
	b.commit()
	b.begin()
	b.alloc(2)
	b.abort()
	b.same()
	wantSpaces(t, b.m, api.Extent{Start: 1, Len: 2}, api.Extent{Start: 4, Len: 12})
}

// P6.3: Twin is in the same state, its transaction too, and neither sees what becomes of the other.
func TestTwin(t *testing.T) {
	b := begun(t, 1, 19)
	b.alloc(6)
	b.begin()
	b.free(api.Extent{Start: 2, Len: 3})
	b.alloc(2)
	undone, done, left := b.twin(), b.twin(), b.twin()
	undone.abort()
	undone.same()
	done.commit()
	done.same()
	left.same()
	b.same()
	b.alloc(3)
	b.free(api.Extent{Start: 1, Len: 1})
	left.same()
	left.alloc(1)
	left.abort()
	left.same()
	b.same()
	b.abort()
	b.same()
	undone.alloc(2)
	undone.same()
	b.same()
	closed := b.twin()
	closed.commit()
	closed.begin()
	closed.free(api.Extent{Start: 1, Len: 6})
	b.same()
	closed.commit()
	closed.same()
	b.same()
}
