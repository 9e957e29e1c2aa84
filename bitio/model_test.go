package bitio_test

import (
	"strings"
	"testing"

	"wattle/api"
	"wattle/bitio"
)

// The plain model: a row of bits is a string of the letters 0 and 1.

// rowOf is a text's bits, of each byte the highest first.
func rowOf(text string) string {
	var b strings.Builder
	for i := 0; i < len(text); i++ {
		b.WriteString(rowOfNumber(uint64(text[i]), 8))
	}
	return b.String()
}

// rowOfNumber is a number in n bits, the highest first.
func rowOfNumber(v uint64, n int) string {
	row := make([]byte, n)
	for i := n - 1; i >= 0; i-- {
		row[i] = '0' + byte(v&1)
		v >>= 1
	}
	return string(row)
}

// numberOf is the number that a row of at most 64 bits is.
func numberOf(row string) uint64 {
	var v uint64
	for _, c := range row {
		v = 2*v + uint64(c-'0')
	}
	return v
}

// textOf is a row as a text, the last byte filled with bits 0.
func textOf(row string) string {
	for len(row)%8 != 0 {
		row += "0"
	}
	text := make([]byte, 0, len(row)/8)
	for at := 0; at < len(row); at += 8 {
		text = append(text, byte(numberOf(row[at:at+8])))
	}
	return string(text)
}

// chance gives the same numbers at each run.
type chance uint64

func (c *chance) next() uint64 {
	*c ^= *c << 13
	*c ^= *c >> 7
	*c ^= *c << 17
	return uint64(*c)
}

func (c *chance) below(n int) int { return int(c.next() % uint64(n)) }

func (c *chance) inBits(n int) uint64 {
	if n == 0 {
		return 0
	}
	return c.next() >> (64 - n)
}

func (c *chance) text(n int) string {
	b := make([]byte, n)
	for i := range b {
		b[i] = byte(c.next() >> 20)
	}
	return string(b)
}

// piece is a number and its width.
type piece struct {
	v uint64
	n int
}

// pieces are count of them, with the widths 0 and 64 often among them.
func (c *chance) pieces(count int) []piece {
	l := make([]piece, count)
	for i := range l {
		n := c.below(65)
		switch c.below(8) {
		case 0:
			n = 0
		case 1:
			n = 64
		}
		l[i] = piece{c.inBits(n), n}
	}
	return l
}

// edgeNumbers are numbers in n bits that lie at the edges.
func edgeNumbers(n int) []uint64 {
	if n == 0 {
		return []uint64{0}
	}
	most := ^uint64(0) >> (64 - n)
	return []uint64{0, 1, most, most - 1, 1 << (n - 1), 0xaaaaaaaaaaaaaaaa & most, 0x0123456789abcdef & most}
}

// written is a writer that has these bits already.
func written(t *testing.T, row string) *bitio.Writer {
	t.Helper()
	w := bitio.New()
	for i, c := range row {
		if e := w.Bit(c == '1'); e != api.OK {
			t.Fatalf("Bit %d: %v", i, e)
		}
	}
	return w
}

// wantRow fails if the writer has other bits.
func wantRow(t *testing.T, what string, w *bitio.Writer, row string) {
	t.Helper()
	if n := w.Len(); n != len(row) {
		t.Fatalf("%s: Len %d, want %d", what, n, len(row))
	}
	if s, e := w.Text(); e != api.OK || s != textOf(row) {
		t.Fatalf("%s: Text %x, %v; want %x", what, s, e, textOf(row))
	}
}

// wantErr fails if the error is another one.
func wantErr(t *testing.T, what string, got, want api.Errno) {
	t.Helper()
	if got != want {
		t.Fatalf("%s: %v, want %v", what, got, want)
	}
}

// wantPlace fails if the reader is elsewhere in its bits.
func wantPlace(t *testing.T, what string, r *bitio.Reader, at, bits int) {
	t.Helper()
	if r.At() != at || r.Left() != bits-at {
		t.Fatalf("%s: At %d, Left %d; want %d, %d", what, r.At(), r.Left(), at, bits-at)
	}
}
