package journal

import (
	"iter"

	"wattle/api"
	"wattle/blockdev"
)

// heads is how many blocks of a region stand ahead of the ring.
const heads = 2

// region is where a journal lies on its device.
type region struct {
	d             *blockdev.Device
	start, length int
}

// regionOf is a region of a device that is up, if it is one.
func regionOf(d *blockdev.Device, start, length int) (region, api.Errno) {
	switch {
	case d == nil:
		return region{}, api.ErrNil
	case d.Down():
		return region{}, api.ErrDown
	case start < 0 || length < MinLen || start > d.Blocks()-length: // start and length added up might not fit
		return region{}, api.ErrArg
	}
	return region{d, start, length}, api.OK
}

// ring is how many places there are.
func (r region) ring() int { return r.length - heads }

// most is how many blocks a transaction may write.
func (r region) most() int { return max(0, min(r.ring()-beside, room(r.d.Size()))) }

// behind is the place behind all that is used.
func (r region) behind(s state) int { return (s.head.tail + s.used) % r.ring() }

// places goes through so many places behind what is used, round the ring: the number of each among them, and its block.
func (r region) places(s state, n int) iter.Seq2[int, int] {
	return func(yield func(int, int) bool) {
		from := r.behind(s)
		for i := range n {
			if !yield(i, r.start+heads+(from+i)%r.ring()) {
				return
			}
		}
	}
}

// write is a step that writes a block.
func (r region) write(block int, text string) func() api.Errno {
	return func() api.Errno { return r.d.Write(block, text) }
}

// mayWrite says whether a transaction may write these blocks, but for how many they are.
func (r region) mayWrite(l []Write) bool {
	seen := map[int]struct{}{}
	for _, w := range l {
		inRegion := w.Block >= r.start && w.Block < r.start+r.length
		if w.Block < 0 || w.Block >= r.d.Blocks() || inRegion || len(w.Data) != r.d.Size() {
			return false
		}
		seen[w.Block] = struct{}{}
	}
	return len(seen) == len(l)
}

// found is what the heads tell: the state of a journal in whose ring nothing was looked at as yet.
func (r region) found() (state, api.Errno) {
	var s state
	there := false
	for at := range heads {
		text, e := r.d.Read(r.start + at)
		if e != api.OK {
			return state{}, e
		}
		h, ok := headOf(text, r.ring())
		if ok && (!there || h.own > s.head.own) {
			s, there = state{head: h, at: at, number: h.number}, true
		}
	}
	if !there {
		return state{}, api.ErrCorrupt
	}
	return s, api.OK
}

// standing is what the transaction writes that stands in the ring behind what is used, with the next number; nothing, if there is none.
func (r region) standing(s state) ([]Write, api.Errno) {
	texts, e := r.read(s, 1)
	if e != api.OK {
		return nil, e
	}
	targets := targetsOf(texts[0], s.number, r.most())
	if len(targets) == 0 || len(targets)+beside > r.ring()-s.used {
		return nil, api.OK
	}
	texts, e = r.read(s, len(targets)+beside)
	if e != api.OK {
		return nil, e
	}
	last := len(texts) - 1
	l, ok := unescaped(targets, texts[1:last])
	if !ok || !r.mayWrite(l) || !begins(texts[last], s.number) {
		return nil, api.OK
	}
	if texts[last][:api.Sector] != record(s.number, texts[:last], r.d.Size())[:api.Sector] { // the other sectors may be torn
		return nil, api.ErrCorrupt
	}
	return l, api.OK
}

// read is what so many places behind what is used have.
func (r region) read(s state, n int) ([]string, api.Errno) {
	texts := make([]string, n)
	for i, block := range r.places(s, n) {
		text, e := r.d.Read(block)
		if e != api.OK {
			return nil, e
		}
		texts[i] = text
	}
	return texts, api.OK
}
