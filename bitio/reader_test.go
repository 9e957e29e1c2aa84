package bitio_test

import (
	"math"
	"strconv"
	"testing"

	"wattle/api"
	"wattle/bitio"
)

// P1.2: the chapter's third example.
func TestReaderExamples(t *testing.T) {
	r := bitio.Open("\xa8")
	if v, e := r.Take(3); v != 5 || e != api.OK || r.At() != 3 {
		t.Errorf("Take(3): %d, %v, At %d", v, e, r.At())
	}
	if b, e := r.Bit(); b || e != api.OK || r.Left() != 4 {
		t.Errorf("Bit: %v, %v, Left %d", b, e, r.Left())
	}
	if v, e := r.Take(5); v != 0 || e != api.ErrForm {
		t.Errorf("Take(5): %d, %v", v, e)
	}
	wantErr(t, "Seek(9)", r.Seek(9), api.ErrArg)
	wantPlace(t, "behind Seek(9)", r, 4, 8)
	wantErr(t, "Seek(8)", r.Seek(8), api.OK)
	if b, e := r.Bit(); b || e != api.ErrForm {
		t.Errorf("Bit at the end: %v, %v", b, e)
	}
}

// P1.2: the bits of a text, one by one, and none behind them.
func TestReaderBit(t *testing.T) {
	c := chance(3)
	for _, text := range []string{"\x80", "\x01", "\x00\xff", c.text(13)} {
		row := rowOf(text)
		r := bitio.Open(text)
		wantPlace(t, "Open", r, 0, len(row))
		for i := range row {
			if b, e := r.Bit(); b != (row[i] == '1') || e != api.OK {
				t.Fatalf("bit %d of %x: %v, %v", i, text, b, e)
			}
			wantPlace(t, "Bit", r, i+1, len(row))
		}
		for range 2 {
			if b, e := r.Bit(); b || e != api.ErrForm {
				t.Fatalf("behind the bits of %x: %v, %v", text, b, e)
			}
			wantPlace(t, "behind the end", r, len(row), len(row))
		}
	}
}

// P1.2: numbers of every width, from every place; where fewer bits are left the place stays.
func TestTakeWidths(t *testing.T) {
	c := chance(9)
	for _, text := range []string{"\xff", "\xff\xff\xff\xff\xff\xff\xff\xff\xff\xff", c.text(8), c.text(11), c.text(20)} {
		row := rowOf(text)
		for at := 0; at <= len(row); at++ {
			for n := 0; n <= 64; n++ {
				what := "Take(" + strconv.Itoa(n) + ") from " + strconv.Itoa(at) + " of " + strconv.Quote(text)
				r := bitio.Open(text)
				wantErr(t, "Seek", r.Seek(at), api.OK)
				v, e := r.Take(n)
				if at+n > len(row) {
					wantErr(t, what, e, api.ErrForm)
					if v != 0 {
						t.Fatalf("%s: %d beside an error", what, v)
					}
					wantPlace(t, what, r, at, len(row))
					continue
				}
				wantErr(t, what, e, api.OK)
				if v != numberOf(row[at:at+n]) {
					t.Fatalf("%s: %d, want %d", what, v, numberOf(row[at:at+n]))
				}
				wantPlace(t, what, r, at+n, len(row))
			}
		}
	}
}

// P1.2, R5: a width that is none, ahead of there being no bits.
func TestTakeRefused(t *testing.T) {
	for _, at := range []int{0, 5, 8, 23, 24} {
		r := bitio.Open("abc")
		wantErr(t, "Seek", r.Seek(at), api.OK)
		for _, n := range []int{-1, -64, 65, 66, 128, 1 << 32, math.MaxInt, math.MinInt} {
			v, e := r.Take(n)
			wantErr(t, "Take("+strconv.Itoa(n)+")", e, api.ErrArg)
			if v != 0 {
				t.Errorf("Take(%d): %d beside an error", n, v)
			}
			wantPlace(t, "Take", r, at, 24)
		}
	}
}

// P1.2: every place, the end too, and none beyond.
func TestSeek(t *testing.T) {
	text := "\x5a\x0f\x81"
	row := rowOf(text)
	r := bitio.Open(text)
	for at := 0; at <= len(row); at++ {
		for _, from := range []int{0, 7, len(row)} {
			wantErr(t, "Seek", r.Seek(from), api.OK)
			wantErr(t, "Seek", r.Seek(at), api.OK)
			wantPlace(t, "Seek", r, at, len(row))
		}
		if at < len(row) {
			if b, e := r.Bit(); e != api.OK || b != (row[at] == '1') {
				t.Errorf("the bit %d: %v, %v", at, b, e)
			}
		}
		wantErr(t, "Seek", r.Seek(at), api.OK)
		for _, bad := range []int{-1, -8, len(row) + 1, len(row) + 8, 1 << 32, math.MaxInt, math.MinInt} {
			wantErr(t, "Seek("+strconv.Itoa(bad)+")", r.Seek(bad), api.ErrArg)
			wantPlace(t, "Seek", r, at, len(row))
		}
	}
}

// P1.2: a text without bits.
func TestReaderOfNothing(t *testing.T) {
	r := bitio.Open("")
	if r == nil {
		t.Fatal("Open: nil")
	}
	wantPlace(t, "Open", r, 0, 0)
	if v, e := r.Take(0); v != 0 || e != api.OK {
		t.Errorf("Take(0): %d, %v", v, e)
	}
	if v, e := r.Take(1); v != 0 || e != api.ErrForm {
		t.Errorf("Take(1): %d, %v", v, e)
	}
	if b, e := r.Bit(); b || e != api.ErrForm {
		t.Errorf("Bit: %v, %v", b, e)
	}
	wantErr(t, "Seek(0)", r.Seek(0), api.OK)
	wantErr(t, "Seek(1)", r.Seek(1), api.ErrArg)
	wantPlace(t, "behind all", r, 0, 0)
}

// P1.2, R1, R5: a nil reader, ahead of any other error.
func TestNilReader(t *testing.T) {
	var r *bitio.Reader
	if b, e := r.Bit(); b || e != api.ErrNil {
		t.Errorf("Bit: %v, %v", b, e)
	}
	for _, n := range []int{0, 1, 64, 65, -1} {
		if v, e := r.Take(n); v != 0 || e != api.ErrNil {
			t.Errorf("Take(%d): %d, %v", n, v, e)
		}
	}
	for _, at := range []int{0, 1, -1} {
		wantErr(t, "Seek", r.Seek(at), api.ErrNil)
	}
	if r.At() != 0 || r.Left() != 0 {
		t.Errorf("At %d, Left %d", r.At(), r.Left())
	}
}

// R1: a reader that Open has not made does not panic.
func TestZeroReader(t *testing.T) {
	r := new(bitio.Reader)
	for _, n := range []int{0, 1, 8, 64, 65, -1} {
		r.Take(n)
		r.Seek(n)
		r.Bit()
		r.At()
		r.Left()
	}
}

// R2: readers of one text do not see one another.
func TestReadersApart(t *testing.T) {
	text := "\x12\x34\x56"
	a, b := bitio.Open(text), bitio.Open(text)
	a.Take(12)
	if v, e := b.Take(4); v != 1 || e != api.OK {
		t.Errorf("%d, %v", v, e)
	}
	if v, e := a.Take(4); v != 4 || e != api.OK {
		t.Errorf("%d, %v", v, e)
	}
	wantPlace(t, "a", a, 16, 24)
	wantPlace(t, "b", b, 4, 24)
}
