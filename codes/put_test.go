package codes_test

import (
	"math"
	"strings"
	"testing"

	"wattle/api"
	"wattle/bitio"
	"wattle/codes"
)

// forms are the rows of the chapter's examples.
var forms = []struct {
	c   codes.Code
	v   uint64
	row string
}{
	{codes.Code{Kind: codes.Unary}, 0, "1"},
	{codes.Code{Kind: codes.Unary}, 3, "0001"},
	{codes.Code{Kind: codes.Gamma}, 0, "1"},
	{codes.Code{Kind: codes.Gamma}, 1, "010"},
	{codes.Code{Kind: codes.Gamma}, 2, "011"},
	{codes.Code{Kind: codes.Gamma}, 7, "0001000"},
	{codes.Code{Kind: codes.Delta}, 0, "1"},
	{codes.Code{Kind: codes.Delta}, 1, "0100"},
	{codes.Code{Kind: codes.Delta}, 7, "00100000"},
	{codes.Code{Kind: codes.Minimal, K: 5}, 0, "00"},
	{codes.Code{Kind: codes.Minimal, K: 5}, 2, "10"},
	{codes.Code{Kind: codes.Minimal, K: 5}, 3, "110"},
	{codes.Code{Kind: codes.Minimal, K: 5}, 4, "111"},
	{codes.Code{Kind: codes.Zeta, K: 2}, 0, "10"},
	{codes.Code{Kind: codes.Zeta, K: 2}, 1, "110"},
	{codes.Code{Kind: codes.Zeta, K: 2}, 2, "111"},
	{codes.Code{Kind: codes.Zeta, K: 2}, 3, "01000"},
	{codes.Code{Kind: codes.Zeta, K: 2}, 15, "00100000"},
}

// P2.1, P2.2: the chapter's examples, written, counted and read.
func TestExamples(t *testing.T) {
	for _, x := range forms {
		what := name(x.c, x.v)
		w := bitio.New()
		wantErr(t, what, codes.Put(w, x.c, x.v), api.OK)
		wantRow(t, what, w, x.row)
		if n, e := x.c.Len(x.v); n != len(x.row) || e != api.OK {
			t.Errorf("%s: Len %d, %v", what, n, e)
		}
		r := opened(t, x.row)
		if v, e := codes.Read(r, x.c); v != x.v || e != api.OK || r.Left() != 0 {
			t.Errorf("%s: read as %d, %v; %d bits are left", what, v, e, r.Left())
		}
	}
	wantErr(t, "Put of 5 of 5", codes.Put(bitio.New(), codes.Code{Kind: codes.Minimal, K: 5}, 5), api.ErrArg)
	for kind := codes.Unary; kind <= codes.Zeta; kind++ {
		c := codes.Code{Kind: kind}
		if kind == codes.Zeta {
			c.K = 3
		}
		wantForm(t, "Read of no bits", bitio.Open(""), c)
	}
	wantForm(t, "Read of no bits", bitio.Open(""), codes.Code{Kind: codes.Minimal, K: 5})
}

// P2.2: numbers stand behind what the writer has, at each place in a byte, and are gone on with.
func TestPut(t *testing.T) {
	for _, c := range allCodes() {
		for i, v := range someOf(c) {
			what := "Put " + name(c, v)
			head := "1011001110"[:i%11]
			w := written(t, head)
			wantErr(t, what, codes.Put(w, c, v), api.OK)
			wantRow(t, what, w, head+rowIn(c, v))
			wantErr(t, "Bit", w.Bit(true), api.OK)
			wantRow(t, what+" and a bit", w, head+rowIn(c, v)+"1")
		}
	}
}

// P2.2: Unary around each width in which its bits 0 may be put at once.
func TestPutUnaryLengths(t *testing.T) {
	for v := uint64(0); v <= 300; v++ {
		w := written(t, "101")
		wantErr(t, "Put", codes.Put(w, codes.Code{}, v), api.OK)
		wantRow(t, name(codes.Code{}, v), w, "101"+strings.Repeat("0", int(v))+"1")
	}
}

// P2.2, R4, R5: the errors in their order; nothing is written.
func TestPutRefused(t *testing.T) {
	w := written(t, "10110")
	for _, c := range allCodes() {
		wantErr(t, "nil, "+name(c, 0), codes.Put(nil, c, 0), api.ErrNil)
		for _, v := range above(c) {
			wantErr(t, "nil, "+name(c, v), codes.Put(nil, c, v), api.ErrNil)
			wantErr(t, name(c, v), codes.Put(w, c, v), api.ErrArg)
		}
	}
	for _, c := range badCodes() {
		for _, v := range []uint64{0, 1, math.MaxUint64} {
			wantErr(t, "nil, "+name(c, v), codes.Put(nil, c, v), api.ErrNil)
			wantErr(t, name(c, v), codes.Put(w, c, v), api.ErrArg)
		}
	}
	wantRow(t, "behind refused Puts", w, "10110")
	wantErr(t, "Put", codes.Put(w, codes.Code{Kind: codes.Gamma}, 1), api.OK)
	wantRow(t, "gone on with", w, "10110010")
}

// fillTo puts bits 1 till a writer has room for so many bits.
func fillTo(t *testing.T, w *bitio.Writer, room int) {
	t.Helper()
	n := bitio.MaxBits - room - w.Len()
	wantErr(t, "Add of very many", w.Add(strings.Repeat("\xff", (n+7)/8), n), api.OK)
}

// P2.2, R4: a writer without room for all bits of a number takes none of them.
func TestPutWithoutRoom(t *testing.T) {
	w := bitio.New()
	for _, x := range []item{ // the longest ones first: the room only shrinks
		{codes.Code{Kind: codes.Unary}, codes.MaxUnary},
		{codes.Code{Kind: codes.Unary}, 200},
		{codes.Code{Kind: codes.Gamma}, codes.MaxValue},
		{codes.Code{Kind: codes.Zeta, K: 3}, codes.MaxValue},
		{codes.Code{Kind: codes.Delta}, codes.MaxValue},
		{codes.Code{Kind: codes.Minimal, K: codes.MaxValue + 1}, codes.MaxValue},
		{codes.Code{Kind: codes.Unary}, 0},
	} {
		room := len(rowIn(x.c, x.v)) - 1
		fillTo(t, w, room)
		wantErr(t, name(x.c, x.v), codes.Put(w, x.c, x.v), api.ErrFull)
		if w.Len() != bitio.MaxBits-room {
			t.Fatalf("%s: refused, but there is room for %d bits", name(x.c, x.v), bitio.MaxBits-w.Len())
		}
	}
	wantErr(t, "no bits", codes.Put(w, codes.Code{Kind: codes.Minimal, K: 1}, 0), api.OK)
	wantErr(t, "above Most", codes.Put(w, codes.Code{Kind: codes.Minimal, K: 1}, 1), api.ErrArg)
	wantErr(t, "a code that may not be", codes.Put(w, codes.Code{Kind: codes.Gamma, K: 1}, 0), api.ErrArg)
	if s, e := w.Text(); e != api.OK || w.Len() != bitio.MaxBits || s != strings.Repeat("\xff", bitio.MaxBits/8) {
		t.Errorf("behind refused Puts there are other bits: %d, %v", w.Len(), e)
	}
}

// P2.2: a writer with room for just the bits of a number takes them.
func TestPutWithJustRoom(t *testing.T) {
	for _, x := range []item{
		{codes.Code{Kind: codes.Unary}, codes.MaxUnary},
		{codes.Code{Kind: codes.Zeta, K: 3}, codes.MaxValue},
		{codes.Code{Kind: codes.Minimal, K: 5}, 4},
	} {
		row := rowIn(x.c, x.v)
		w := bitio.New()
		fillTo(t, w, len(row))
		wantErr(t, name(x.c, x.v), codes.Put(w, x.c, x.v), api.OK)
		s, _ := w.Text()
		r := bitio.Open(s)
		wantErr(t, "Seek", r.Seek(bitio.MaxBits-len(row)), api.OK)
		if v, e := codes.Read(r, x.c); v != x.v || e != api.OK || r.Left() != 0 {
			t.Fatalf("%s: read as %d, %v; %d bits are left", name(x.c, x.v), v, e, r.Left())
		}
	}
}

// R1: a writer that New has not made does not panic.
func TestPutInZeroWriter(t *testing.T) {
	for _, c := range append(allCodes(), badCodes()...) {
		w := new(bitio.Writer)
		codes.Put(w, c, 0)
		codes.Put(w, c, c.Most())
		codes.Put(w, c, math.MaxUint64)
	}
}
