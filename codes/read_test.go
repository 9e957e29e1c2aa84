package codes_test

import (
	"strconv"
	"strings"
	"testing"

	"wattle/api"
	"wattle/bitio"
	"wattle/codes"
)

// P2.2: numbers are read from each place in a byte, and the place goes on behind their last bit.
func TestRead(t *testing.T) {
	for _, c := range allCodes() {
		for i, v := range someOf(c) {
			row := rowIn(c, v)
			head := "0011001110"[:i%11]
			for _, tail := range []string{"", "0", "1", "00000000000", "11111111111"} {
				r := bitio.Open(textOf(head + row + tail))
				wantErr(t, "Seek", r.Seek(len(head)), api.OK)
				got, e := codes.Read(r, c)
				wantErr(t, name(c, v), e, api.OK)
				if got != v || r.At() != len(head)+len(row) {
					t.Fatalf("%s: read as %d, up to %d; want %d", name(c, v), got, r.At(), len(head)+len(row))
				}
			}
		}
	}
}

// P2.2, R4: bits that end within a number: the place stays, wherever they end.
func TestReadCutShort(t *testing.T) {
	for _, c := range allCodes() {
		for _, v := range someOf(c) {
			row := rowIn(c, v)
			step := 1 + len(row)/50
			for n := 0; n < len(row); n += step {
				wantForm(t, name(c, v)+", cut to "+strconv.Itoa(n), opened(t, row[:n]), c)
			}
			if len(row) > 0 {
				wantForm(t, name(c, v)+", without its last bit", opened(t, row[:len(row)-1]), c)
			}
		}
	}
}

// aboveMost are forms, as the chapter would make them, of numbers above Most; and rows that no number up to Most begins with.
func aboveMost(c codes.Code) []string {
	long := strings.Repeat("0", 70000)
	switch c.Kind {
	case codes.Unary:
		return []string{unaryRow(65536), unaryRow(65537), unaryRow(65600), unaryRow(70000), long}
	case codes.Minimal: // its bits have no form of more numbers
		return nil
	}
	l := []string{long, long + "1", strings.Repeat("0", 48) + strings.Repeat("1", 400)}
	for _, v := range []uint64{1<<48 - 1, 1 << 48, 1<<48 + 1, 1<<49 - 2, 1<<49 - 1, 1 << 50, 1 << 55, 1<<63 - 2} {
		if b, _ := modelLog(v + 1); c.Kind != codes.Zeta || (b/c.K+1)*c.K < 64 { // the model counts in 64 bits
			l = append(l, rowIn(c, v))
		}
	}
	if c.Kind == codes.Delta {
		for _, b := range []uint64{48, 49, 63, 64, 65, 127, 128, 1 << 32, 1<<47 - 2, 1<<48 - 2} {
			l = append(l, gammaRow(b)+strings.Repeat("1", 200), gammaRow(b)+strings.Repeat("0", 200))
		}
	}
	return l
}

// P2.2, R4: bits that would be a number above Most: the place stays.
func TestReadAboveMost(t *testing.T) {
	for _, c := range allCodes() {
		for i, row := range aboveMost(c) {
			for _, tail := range []string{"", "1", strings.Repeat("1", 300)} {
				r := bitio.Open(textOf("10110" + row + tail))
				wantErr(t, "Seek", r.Seek(5), api.OK)
				wantForm(t, name(c, 0)+", above Most "+strconv.Itoa(i), r, c)
			}
		}
		if c.Kind != codes.Minimal {
			if v, e := codes.Read(bitio.Open(textOf(rowIn(c, mostOf(c)))), c); v != mostOf(c) || e != api.OK {
				t.Errorf("Most of %s: %d, %v", name(c, 0), v, e)
			}
		}
	}
}

// P2.2: K = 1 takes no bits, where none are left, too.
func TestReadOfOneNumber(t *testing.T) {
	c := codes.Code{Kind: codes.Minimal, K: 1}
	for _, text := range []string{"", "\x00", "\xff\xff"} {
		r := bitio.Open(text)
		for at := 0; at <= 8*len(text); at++ {
			wantErr(t, "Seek", r.Seek(at), api.OK)
			if v, e := codes.Read(r, c); v != 0 || e != api.OK || r.At() != at {
				t.Errorf("at %d of %x: %d, %v, then at %d", at, text, v, e, r.At())
			}
		}
	}
}

// P2.2, R4, R5: the errors in their order; the place stays.
func TestReadRefused(t *testing.T) {
	for _, c := range allCodes() {
		if v, e := codes.Read(nil, c); v != 0 || e != api.ErrNil {
			t.Errorf("nil, %s: %d, %v", name(c, 0), v, e)
		}
	}
	for _, c := range badCodes() {
		if v, e := codes.Read(nil, c); v != 0 || e != api.ErrNil {
			t.Errorf("nil, %s: %d, %v", name(c, 0), v, e)
		}
		for _, text := range []string{"", "\xff\xff", "\x00\x00"} {
			r := bitio.Open(text)
			for _, at := range []int{0, 8 * len(text) / 2, 8 * len(text)} {
				wantErr(t, "Seek", r.Seek(at), api.OK)
				if v, e := codes.Read(r, c); v != 0 || e != api.ErrArg || r.At() != at {
					t.Errorf("%s: %d, %v, at %d", name(c, 0), v, e, r.At())
				}
			}
		}
	}
}

// P2.2: behind bits that are no number the reader is gone on with, in another code too.
func TestReadAfterRefusal(t *testing.T) {
	r := bitio.Open(textOf(strings.Repeat("0", 50) + "1" + strings.Repeat("0", 13)))
	wantForm(t, "50 bits 0 as Gamma", r, codes.Code{Kind: codes.Gamma})
	if v, e := codes.Read(r, codes.Code{}); v != 50 || e != api.OK || r.At() != 51 {
		t.Errorf("as Unary: %d, %v, at %d", v, e, r.At())
	}
	wantForm(t, "13 bits 0 as Unary", r, codes.Code{})
	if v, e := codes.Read(r, codes.Code{Kind: codes.Minimal, K: 1 << 13}); v != 0 || e != api.OK || r.Left() != 0 {
		t.Errorf("as Minimal: %d, %v, %d left", v, e, r.Left())
	}
}

// R1: a reader that Open has not made does not panic.
func TestReadOfZeroReader(t *testing.T) {
	for _, c := range append(allCodes(), badCodes()...) {
		codes.Read(new(bitio.Reader), c)
	}
}
