package codes_test

import (
	"math"
	"slices"
	"strconv"
	"strings"
	"testing"

	"wattle/api"
	"wattle/bitio"
	"wattle/codes"
)

// The plain model: a row of bits is a string of the letters 0 and 1; the forms are made as the chapter tells them, by counting and doubling, and know no bound.

// rowOfNumber is a number in n bits, the highest first.
func rowOfNumber(v uint64, n int) string {
	row := make([]byte, n)
	for i := n - 1; i >= 0; i-- {
		row[i] = '0' + byte(v&1)
		v >>= 1
	}
	return string(row)
}

// rowOf is a text's bits.
func rowOf(text string) string {
	var b strings.Builder
	for i := 0; i < len(text); i++ {
		b.WriteString(rowOfNumber(uint64(text[i]), 8))
	}
	return b.String()
}

// textOf is a row as a text, the last byte filled with bits 0.
func textOf(row string) string {
	for len(row)%8 != 0 {
		row += "0"
	}
	text := make([]byte, len(row)/8)
	for i := range row {
		text[i/8] = 2*text[i/8] + row[i] - '0'
	}
	return string(text)
}

func unaryRow(v uint64) string { return strings.Repeat("0", int(v)) + "1" }

func minimalRow(v, k uint64) string {
	s, power := 0, uint64(1)
	for power < k {
		s, power = s+1, 2*power
	}
	m := power - k
	if v < m {
		return rowOfNumber(v, s-1)
	}
	return rowOfNumber(v+m, s)
}

// modelLog is the b with 2^b at most n and 2^(b+1) above it, and 2^b.
func modelLog(n uint64) (b, power uint64) {
	power = 1
	for n/2 >= power {
		b, power = b+1, 2*power
	}
	return b, power
}

func gammaRow(v uint64) string {
	b, power := modelLog(v + 1)
	return unaryRow(b) + rowOfNumber(v+1-power, int(b))
}

func deltaRow(v uint64) string {
	b, power := modelLog(v + 1)
	return gammaRow(b) + rowOfNumber(v+1-power, int(b))
}

func zetaRow(v, k uint64) string {
	b, _ := modelLog(v + 1)
	h := b / k
	low := uint64(1)
	for range h * k {
		low *= 2
	}
	high := low
	for range k {
		high *= 2
	}
	return unaryRow(h) + minimalRow(v+1-low, high-low)
}

// rowIn is a number's form in a code.
func rowIn(c codes.Code, v uint64) string {
	switch c.Kind {
	case codes.Unary:
		return unaryRow(v)
	case codes.Gamma:
		return gammaRow(v)
	case codes.Delta:
		return deltaRow(v)
	case codes.Zeta:
		return zetaRow(v, c.K)
	}
	return minimalRow(v, c.K)
}

// mostOf is the greatest number of a code that may be, as the chapter's list has it.
func mostOf(c codes.Code) uint64 {
	switch c.Kind {
	case codes.Unary:
		return 65535
	case codes.Minimal:
		return c.K - 1
	}
	return 1<<48 - 2
}

// name tells a code and a number.
func name(c codes.Code, v uint64) string {
	return "{" + strconv.Itoa(int(c.Kind)) + ", " + strconv.FormatUint(c.K, 10) + "} of " + strconv.FormatUint(v, 10)
}

// allCodes are codes that may be: all of the first four kinds, and Minimal with K at its edges.
func allCodes() []codes.Code {
	l := []codes.Code{{codes.Unary, 0}, {codes.Gamma, 0}, {codes.Delta, 0}}
	for k := uint64(1); k <= 16; k++ {
		l = append(l, codes.Code{Kind: codes.Zeta, K: k})
	}
	for k := uint64(1); k <= 20; k++ {
		l = append(l, codes.Code{Kind: codes.Minimal, K: k})
	}
	for _, k := range []uint64{255, 256, 257, 65535, 65536, 65537, 1<<32 - 1, 1 << 32, 1<<32 + 1, 1<<47 - 1, 1 << 47, 1<<47 + 1, 1<<48 - 2, 1<<48 - 1} {
		l = append(l, codes.Code{Kind: codes.Minimal, K: k})
	}
	return l
}

// badCodes are codes that may not be.
func badCodes() []codes.Code {
	l := []codes.Code{{codes.Zeta, 0}, {codes.Zeta, 17}, {codes.Zeta, 256 + 3}, {codes.Zeta, math.MaxUint64}}
	for _, kind := range []uint8{codes.Unary, codes.Gamma, codes.Delta} {
		for _, k := range []uint64{1, 2, 16, 1 << 32, math.MaxUint64} {
			l = append(l, codes.Code{Kind: kind, K: k})
		}
	}
	for _, k := range []uint64{0, 1 << 48, 1<<48 + 1, 1 << 63, math.MaxUint64} {
		l = append(l, codes.Code{Kind: codes.Minimal, K: k})
	}
	for kind := 5; kind <= 255; kind++ {
		for _, k := range []uint64{0, 1, 16, 17, math.MaxUint64} {
			l = append(l, codes.Code{Kind: uint8(kind), K: k})
		}
	}
	return l
}

// someOf are numbers that a code codes, rising, each once: the first ones, the last one, those around each power of two, and around where Minimal's bits grow by one.
func someOf(c codes.Code) []uint64 {
	most := mostOf(c)
	seen := map[uint64]bool{}
	var l []uint64
	take := func(v uint64) {
		if v <= most && !seen[v] {
			seen[v] = true
			l = append(l, v)
		}
	}
	for v := range uint64(40) {
		take(v)
	}
	if c.Kind == codes.Minimal {
		_, power := modelLog(c.K - 1 | 1)
		for d := range uint64(3) {
			take(2*power - c.K + d - 1)
		}
	}
	for b := 5; b <= 48; b++ {
		for d := range uint64(5) {
			take(1<<b + d - 3)
		}
	}
	for d := range uint64(3) {
		take(most - d)
	}
	slices.Sort(l)
	return l
}

// chance gives the same numbers at each run.
type chance uint64

func (c *chance) next() uint64 {
	*c ^= *c << 13
	*c ^= *c >> 7
	*c ^= *c << 17
	return uint64(*c)
}

func (c *chance) below(n int) int { return int(c.next() % uint64(n)) }

// of is a number that the code codes, a small one often.
func (c *chance) of(code codes.Code) uint64 {
	most := mostOf(code)
	v := c.next() >> c.below(64)
	if code.Kind == codes.Unary && c.below(8) > 0 {
		v %= 100
	}
	if v > most {
		v %= most + 1
	}
	return v
}

// wantErr fails if the error is another one.
func wantErr(t *testing.T, what string, got, want api.Errno) {
	t.Helper()
	if got != want {
		t.Fatalf("%s: %v, want %v", what, got, want)
	}
}

// wantRow fails if the writer has other bits.
func wantRow(t *testing.T, what string, w *bitio.Writer, row string) {
	t.Helper()
	if s, e := w.Text(); e != api.OK || w.Len() != len(row) || s != textOf(row) {
		t.Fatalf("%s: %d bits, want %d: %x, want %x", what, w.Len(), len(row), s, textOf(row))
	}
}

// written is a writer that has these bits.
func written(t *testing.T, row string) *bitio.Writer {
	t.Helper()
	w := bitio.New()
	wantErr(t, "Add", w.Add(textOf(row), len(row)), api.OK)
	return w
}

// opened is a reader of a row behind as many bits as fill the row's first byte, so that nothing stands behind the row; it is at the row's begin.
func opened(t *testing.T, row string) *bitio.Reader {
	t.Helper()
	head := (8 - len(row)%8) % 8
	r := bitio.Open(textOf(strings.Repeat("1", head) + row))
	wantErr(t, "Seek", r.Seek(head), api.OK)
	if r.Left() != len(row) {
		t.Fatalf("%d bits are left, want %d", r.Left(), len(row))
	}
	return r
}

// wantForm fails if the reader tells a number, or has gone on.
func wantForm(t *testing.T, what string, r *bitio.Reader, c codes.Code) {
	t.Helper()
	at, left := r.At(), r.Left()
	for range 2 {
		if v, e := codes.Read(r, c); v != 0 || e != api.ErrForm {
			t.Fatalf("%s: %d, %v", what, v, e)
		}
		if r.At() != at || r.Left() != left {
			t.Fatalf("%s: at %d with %d left; was at %d with %d", what, r.At(), r.Left(), at, left)
		}
	}
}
