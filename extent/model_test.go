package extent_test

import (
	"slices"
	"testing"

	"wattle/api"
	"wattle/extent"
)

// The plain model: a word for each block, and the chapter's words done one block at a time.

type model struct {
	from, blocks int
	is           map[int]string // of the map's blocks: free, taken or leaving
	was          map[int]string // at Begin; nil if no transaction is open
}

func newModel(from, blocks int) *model {
	m := &model{from: from, blocks: blocks, is: map[int]string{}}
	for n := from; n < blocks; n++ {
		m.is[n] = "free"
	}
	return m
}

// own says whether each of the blocks is the map's, and there is one.
func (m *model) own(x api.Extent) bool {
	return x.Start >= m.from && x.Start < m.blocks && x.Len >= 1 && x.Len <= m.blocks && x.Start+x.Len <= m.blocks
}

// all says whether all blocks of an own extent are so.
func (m *model) all(x api.Extent, word string) bool {
	for n := x.Start; n < x.Start+x.Len; n++ {
		if m.is[n] != word {
			return false
		}
	}
	return true
}

func (m *model) turn(x api.Extent, word string) {
	for n := x.Start; n < x.Start+x.Len; n++ {
		m.is[n] = word
	}
}

func (m *model) alloc(n int) (api.Extent, api.Errno) {
	if n < 1 {
		return api.Extent{}, api.ErrArg
	}
	for start := m.from; start < m.blocks; start++ {
		if x := (api.Extent{Start: start, Len: n}); m.own(x) && m.all(x, "free") {
			m.turn(x, "taken")
			return x, api.OK
		}
	}
	return api.Extent{}, api.ErrFull
}

func (m *model) take(x api.Extent) api.Errno {
	if !m.own(x) {
		return api.ErrArg
	}
	if !m.all(x, "free") {
		return api.ErrThere
	}
	m.turn(x, "taken")
	return api.OK
}

func (m *model) free(x api.Extent) api.Errno {
	if !m.own(x) || !m.all(x, "taken") {
		return api.ErrArg
	}
	if m.was != nil {
		m.turn(x, "leaving")
	} else {
		m.turn(x, "free")
	}
	return api.OK
}

func (m *model) begin() api.Errno {
	if m.was != nil {
		return api.ErrState
	}
	m.was = map[int]string{}
	for n, word := range m.is {
		m.was[n] = word
	}
	return api.OK
}

func (m *model) commit() api.Errno {
	if m.was == nil {
		return api.ErrState
	}
	for n, word := range m.is {
		if word == "leaving" {
			m.is[n] = "free"
		}
	}
	m.was = nil
	return api.OK
}

func (m *model) abort() api.Errno {
	if m.was == nil {
		return api.ErrState
	}
	m.is, m.was = m.was, nil
	return api.OK
}

// spaces are as few as there can be: no two of them touch.
func (m *model) spaces() []api.Extent {
	var l []api.Extent
	for n := m.from; n < m.blocks; n++ {
		if m.is[n] != "free" {
			continue
		}
		if k := len(l) - 1; k >= 0 && l[k].Start+l[k].Len == n {
			l[k].Len++
		} else {
			l = append(l, api.Extent{Start: n, Len: 1})
		}
	}
	return l
}

func (m *model) count(word string) int {
	n := 0
	for _, has := range m.is {
		if has == word {
			n++
		}
	}
	return n
}

// bits are put together from digits, eight to a byte.
func (m *model) bits() string {
	digits := ""
	for n := range m.blocks {
		if n < m.from || m.is[n] == "taken" {
			digits += "1"
		} else {
			digits += "0"
		}
	}
	for len(digits)%8 != 0 {
		digits += "0"
	}
	text := ""
	for len(digits) > 0 {
		v := 0
		for _, c := range digits[:8] {
			v = 2*v + int(c-'0')
		}
		text += string([]byte{byte(v)})
		digits = digits[8:]
	}
	return text
}

func (m *model) twin() *model {
	other := newModel(m.from, m.blocks)
	for n, word := range m.is {
		other.is[n] = word
	}
	if m.was != nil {
		other.was = map[int]string{}
		for n, word := range m.was {
			other.was[n] = word
		}
	}
	return other
}

// taken says what Taken is to say.
func (m *model) taken(n int) bool { return m.is[n] == "taken" || m.is[n] == "leaving" }

// chance makes numbers that are the same in each run.
type chance uint64

func (c *chance) below(n int) int {
	*c ^= *c << 13
	*c ^= *c >> 7
	*c ^= *c << 17
	return int(uint64(*c) >> 1 % uint64(n))
}

func made(t *testing.T, from, blocks int) *extent.Map {
	t.Helper()
	m, e := extent.New(from, blocks)
	if m == nil || e != api.OK {
		t.Fatalf("New(%d, %d): %v, error %d", from, blocks, m, e)
	}
	return m
}

func ofBits(t *testing.T, from, blocks int, s string) *extent.Map {
	t.Helper()
	m, e := extent.FromBits(from, blocks, s)
	if m == nil || e != api.OK {
		t.Fatalf("FromBits(%d, %d, %x): %v, error %d", from, blocks, s, m, e)
	}
	return m
}

func wantErr(t *testing.T, call string, got, want api.Errno) {
	t.Helper()
	if got != want {
		t.Fatalf("%s: error %d, not %d", call, got, want)
	}
}

func wantSpaces(t *testing.T, m *extent.Map, want ...api.Extent) {
	t.Helper()
	if got := m.Spaces(); !slices.Equal(got, want) {
		t.Fatalf("spaces %v, not %v", got, want)
	}
}

// wantSame holds all that a map tells of itself against the model.
func wantSame(t *testing.T, m *extent.Map, w *model) {
	t.Helper()
	wantSpaces(t, m, w.spaces()...)
	if got, want := m.Room(), w.count("free"); got != want {
		t.Fatalf("room %d, not %d", got, want)
	}
	if got, want := m.Bits(), w.bits(); got != want {
		t.Fatalf("bits %x, not %x", got, want)
	}
	if got, want := m.Open(), w.was != nil; got != want {
		t.Fatalf("open: %v", got)
	}
	for n := -2; n < w.blocks+10; n++ {
		if got, want := m.Taken(n), w.taken(n); got != want {
			t.Fatalf("Taken(%d): %v, not %v", n, got, want)
		}
	}
}

// both are a map and the model of it.
type both struct {
	*testing.T
	m *extent.Map
	w *model
}

func begun(t *testing.T, from, blocks int) both {
	t.Helper()
	b := both{t, made(t, from, blocks), newModel(from, blocks)}
	wantSame(t, b.m, b.w)
	return b
}

func (b both) alloc(n int) (api.Extent, api.Errno) {
	b.Helper()
	got, e := b.m.Alloc(n)
	want, f := b.w.alloc(n)
	if got != want || e != f {
		b.Fatalf("Alloc(%d): %v, error %d, not %v, error %d", n, got, e, want, f)
	}
	return got, e
}

func (b both) take(x api.Extent) {
	b.Helper()
	if got, want := b.m.Take(x), b.w.take(x); got != want {
		b.Fatalf("Take(%v): error %d, not %d", x, got, want)
	}
}

func (b both) free(x api.Extent) {
	b.Helper()
	if got, want := b.m.Free(x), b.w.free(x); got != want {
		b.Fatalf("Free(%v): error %d, not %d", x, got, want)
	}
}

func (b both) begin() { b.Helper(); wantErr(b.T, "Begin", b.m.Begin(), b.w.begin()) }

func (b both) commit() { b.Helper(); wantErr(b.T, "Commit", b.m.Commit(), b.w.commit()) }

func (b both) abort() { b.Helper(); wantErr(b.T, "Abort", b.m.Abort(), b.w.abort()) }

func (b both) same() { b.Helper(); wantSame(b.T, b.m, b.w) }

// twin is another pair, in the same state.
func (b both) twin() both {
	b.Helper()
	other := both{b.T, b.m.Twin(), b.w.twin()}
	if other.m == nil || other.m == b.m {
		b.Fatal("no other map")
	}
	other.same()
	return other
}

// anything is a call that chance picks, in the map's range and somewhat beyond it.
func (b both) anything(c *chance) {
	b.Helper()
	x := api.Extent{Start: c.below(b.w.blocks+6) - 3, Len: c.below(5)}
	if c.below(5) == 0 {
		x.Len = c.below(b.w.blocks + 3)
	}
	switch c.below(10) {
	case 0, 1, 2:
		b.alloc(x.Len)
	case 3, 4:
		b.take(x)
	case 5, 6, 7:
		b.free(x)
	case 8:
		b.begin()
	default:
		if c.below(2) == 0 {
			b.commit()
		} else {
			b.abort()
		}
	}
	b.same()
}
