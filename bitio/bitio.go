// Package bitio is layer 1: bits in bytes; see shared/doc/01-bitio.md.
package bitio

import "wattle/api"

// MaxBits is how many bits a writer takes.
const MaxBits = 1 << 27

// maxWidth is how many bits a number has at most.
const maxWidth = 64

// Writer takes bits.
type Writer struct {
	bytes []byte // the last one filled with bits 0, so that later bits can be laid over them
	bits  int
}

// New makes one.
func New() *Writer { return &Writer{} }

// Bit puts a bit.
func (w *Writer) Bit(b bool) api.Errno {
	if b {
		return w.Put(1, 1)
	}
	return w.Put(0, 1)
}

// Put puts a number in so many bits.
func (w *Writer) Put(v uint64, n int) api.Errno {
	if w == nil {
		return api.ErrNil
	}
	if n < 0 || n > maxWidth || !fits(v, n) {
		return api.ErrArg
	}
	if n > MaxBits-w.bits {
		return api.ErrFull
	}
	w.put(v, n)
	return api.OK
}

// Add puts the first bits of a text.
func (w *Writer) Add(text string, n int) api.Errno {
	if w == nil {
		return api.ErrNil
	}
	if n < 0 || n > 8*len(text) {
		return api.ErrArg
	}
	if n > MaxBits-w.bits {
		return api.ErrFull
	}
	take := taker(text)
	for at := 0; at < n; at += maxWidth {
		k := min(maxWidth, n-at)
		w.put(take(at, k), k)
	}
	return api.OK
}

// Len is how many bits there are.
func (w *Writer) Len() int {
	if w == nil {
		return 0
	}
	return w.bits
}

// Text is all bits, as bytes.
func (w *Writer) Text() (string, api.Errno) {
	if w == nil {
		return "", api.ErrNil
	}
	return string(w.bytes), api.OK
}

// put lays a number that fits behind the bits, a byte's worth at a time.
func (w *Writer) put(v uint64, n int) {
	for n > 0 {
		room := 8 - w.bits%8
		if room == 8 {
			w.bytes = append(w.bytes, 0)
		}
		k := min(room, n)
		part := v >> (n - k) & (1<<k - 1)
		w.bytes[len(w.bytes)-1] |= byte(part << (room - k))
		w.bits += k
		n -= k
	}
}

// Reader gives bits.
type Reader struct {
	take func(at, n int) uint64
	bits int
	at   int
}

// Open makes one of a text.
func Open(text string) *Reader {
	return &Reader{take: taker(text), bits: 8 * len(text)}
}

// Bit takes a bit.
func (r *Reader) Bit() (bool, api.Errno) {
	v, e := r.Take(1)
	return v == 1, e
}

// Take takes a number of so many bits.
func (r *Reader) Take(n int) (uint64, api.Errno) {
	if r == nil {
		return 0, api.ErrNil
	}
	if n < 0 || n > maxWidth {
		return 0, api.ErrArg
	}
	if n > r.Left() {
		return 0, api.ErrForm
	}
	if n == 0 { // a reader that Open has not made has no closure to call
		return 0, api.OK
	}
	v := r.take(r.at, n)
	r.at += n
	return v, api.OK
}

// At is the place of the next bit.
func (r *Reader) At() int {
	if r == nil {
		return 0
	}
	return r.at
}

// Seek goes to a place.
func (r *Reader) Seek(at int) api.Errno {
	if r == nil {
		return api.ErrNil
	}
	if at < 0 || at > r.bits {
		return api.ErrArg
	}
	r.at = at
	return api.OK
}

// Left is how many bits are left.
func (r *Reader) Left() int {
	if r == nil {
		return 0
	}
	return r.bits - r.at
}

// Pack is numbers of one width, as bytes.
func Pack(l []uint64, n int) (string, api.Errno) {
	if n < 1 || n > maxWidth || len(l) > MaxBits/n {
		return "", api.ErrArg
	}
	w := Writer{bytes: make([]byte, 0, bytesOf(len(l)*n))}
	for _, v := range l {
		if !fits(v, n) {
			return "", api.ErrArg
		}
		w.put(v, n)
	}
	return w.Text()
}

// Unpack is so many numbers of one width.
func Unpack(s string, n, count int) ([]uint64, api.Errno) {
	if n < 1 || n > maxWidth || count < 0 {
		return nil, api.ErrArg
	}
	if count > MaxBits/n { // Pack makes no such text, and the product might not fit
		return nil, api.ErrForm
	}
	bits := count * n
	if len(s) != bytesOf(bits) {
		return nil, api.ErrForm
	}
	take := taker(s)
	if take(bits, 8*len(s)-bits) != 0 {
		return nil, api.ErrForm
	}
	l := make([]uint64, count)
	for i := range l {
		l[i] = take(i*n, n)
	}
	return l, api.OK
}

// taker makes the closure by which a text's bits are taken: the number in n bits from the place at on, which the caller knows to be there.
func taker(text string) func(at, n int) uint64 {
	return func(at, n int) uint64 {
		var v uint64
		for n > 0 {
			room := 8 - at%8
			k := min(room, n)
			part := uint64(text[at/8]) >> (room - k) & (1<<k - 1)
			v = v<<k | part
			at += k
			n -= k
		}
		return v
	}
}

// fits says whether a number is below 2^n; n is 0 or more.
func fits(v uint64, n int) bool { return v>>n == 0 }

// bytesOf is how many bytes hold so many bits.
func bytesOf(bits int) int { return (bits + 7) / 8 }
